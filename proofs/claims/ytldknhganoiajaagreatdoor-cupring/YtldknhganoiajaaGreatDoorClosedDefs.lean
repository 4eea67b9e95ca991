/- What the reference's Put answers: the sorted list of faces with one more, in new memory or the very same. A set's numbers, rising: what the text of a set tells. What the reference's Closed answers, told ahead of its walk, and the plain facts that the walk takes. -/
import Derived.Test.YtldknhganoiajaaGreatDoorSorted
import Derived.Test.YtldknhganoiajaaGreatDoorMath2
namespace Go.Proofs.YtldknhganoiajaaGreatDoor
open Go.RowKit Go.Sort

theorem order_at {l : List (List Int)} (h : Order l) {i j : Nat} (hi : i < j) (hj : j < l.length) : ahead (l[i]?.getD []) (l[j]?.getD []) = true := by
  have hi' : i < l.length := by omega
  have := (List.pairwise_iff_getElem.1 h) i j hi' hj hi
  simpa [hi', hj] using this

theorem ins_order {l : List (List Int)} {f : List Int} {j : Nat} (h : Order l) (hj : j ≤ l.length) (hlo : ∀ t, t < j → ahead (l[t]?.getD []) f = true) (hhi : ∀ t, j ≤ t → t < l.length → ahead (l[t]?.getD []) f = false) (hne : j < l.length → ¬ l[j]?.getD [] = f) :
    Order (l.take j ++ ([f] ++ l.drop j)) := by
  have hsp := List.pairwise_append.1 (show Order (l.take j ++ l.drop j) by rw [List.take_append_drop]; exact h)
  have h1 : ∀ a ∈ l.take j, ahead a f = true := fun a ha => by
    obtain ⟨t, ht, e⟩ := List.getElem_of_mem ha
    have ht' : t < j ∧ t < l.length := by simp at ht; omega
    have := hlo t ht'.1
    rw [List.getElem_take] at e
    simpa [ht'.2, e] using this
  have h2 : ∀ b ∈ l.drop j, ahead f b = true := fun b hb => by
    obtain ⟨t, ht, e⟩ := List.getElem_of_mem hb
    have hjl : j < l.length := by simp at ht; omega
    have h0 : ahead f (l[j]?.getD []) = true := by
      rcases ahead_total (l[j]?.getD []) f (hne hjl) with h3 | h3
      · rw [hhi j (Nat.le_refl _) hjl] at h3; cases h3
      · exact h3
    cases t with
    | zero =>
      rw [List.getElem_drop] at e
      simp only [Nat.add_zero] at e
      simpa [hjl, e] using h0
    | succ t =>
      have hlt : j + (t + 1) < l.length := by simp at ht; omega
      have h4 := order_at h (show j < j + (t + 1) by omega) hlt
      rw [List.getElem_drop] at e
      have := ahead_trans _ _ _ h0 h4
      simpa [hlt, e] using this
  rw [Order, List.pairwise_append]
  refine ⟨hsp.1, List.pairwise_append.2 ⟨by simp, hsp.2.1, fun a ha b hb => ?_⟩, fun a ha b hb => ?_⟩
  · simp at ha; subst ha; exact h2 b hb
  · rcases List.mem_append.1 hb with hb | hb
    · simp at hb; subst hb; exact h1 a ha
    · exact ahead_trans _ _ _ (h1 a ha) (h2 b hb)

theorem ins_mem' {α : Type} {out : List α} {j : Nat} {x : α} (v : α) : v ∈ out.take j ++ ([x] ++ out.drop j) ↔ v ∈ out ∨ v = x := by
  have : v ∈ out ↔ v ∈ out.take j ∨ v ∈ out.drop j := by rw [← List.mem_append, List.take_append_drop]
  rw [this]
  simp only [List.mem_append, List.mem_singleton]
  constructor
  · rintro (h | h | h)
    · exact .inl (.inl h)
    · exact .inr h
    · exact .inl (.inr h)
  · rintro ((h | h) | h)
    · exact .inl h
    · exact .inr (.inr h)
    · exact .inr (.inl h)

theorem IntsIn.one {S : Nat → Prop} {w : World} {v : Value} {xs : List Int} (h : IntsIn S w v xs) : v.oneCell' = true := by
  obtain ⟨a, cap, rfl, _⟩ := h
  rfl

/-- Rows, one of which is put among them, in new memory. -/
theorem rows_ins {S : Nat → Prop} {w w' : World} {vs : List Value} {l : List (List Int)} {vf v : Value} {f : List Int} {j base n : Nat} (hB : Below w.heap.size w w') (hl : vs.length = l.length) (hr : ∀ (k : Nat) (u : Value) (x : List Int), vs[k]? = some u → l[k]? = some x → IntsIn S w u x) (hf : IntsIn S w vf f) (hj : j ≤ l.length) (hS : ∀ b, base ≤ b → S b)
    (hown : w'.ownsRow base 39 1 v n (([] ++ vs.take j) ++ [vf] ++ vs.drop j)) : RowsIn S w' v (l.take j ++ ([f] ++ l.drop j)) := by
  have hs := slice_of_owns (S := S) hown (fun b h _ => hS b h)
  refine ⟨vs.take j ++ ([vf] ++ vs.drop j), by simpa using hs, by simp [hl], fun k u x hu hx => ?_⟩
  have hlt : (vs.take j).length = j := by simp; omega
  have hlt' : (l.take j).length = j := by simp; omega
  rw [List.getElem?_append] at hu hx
  rw [hlt] at hu
  rw [hlt'] at hx
  split at hu
  · rename_i hk
    rw [if_pos hk] at hx
    rw [List.getElem?_take, if_pos hk] at hu hx
    exact (hr k u x hu hx).below hB
  · rename_i hk
    rw [if_neg hk] at hx
    rw [List.getElem?_append] at hu hx
    simp only [List.length_singleton] at hu hx
    split at hu
    · rename_i hk2
      rw [if_pos hk2] at hx
      have : k - j = 0 := by omega
      rw [this] at hu hx
      simp at hu hx
      subst hu; subst hx
      exact hf.below hB
    · rename_i hk2
      rw [if_neg hk2] at hx
      rw [List.getElem?_drop] at hu hx
      exact (hr _ u x hu hx).below hB

theorem half_int (lo hi : Nat) : ((lo : Int) + hi).tdiv 2 = (((lo + hi) / 2 : Nat) : Int) := by
  rw [← Int.natCast_add, Int.tdiv_eq_ediv_of_nonneg (by omega)]
  omega

/-- What Put answers. -/
def PutSays (base : Nat) (l : List (List Int)) (f : List Int) (w : World) (e : Ending) (w' : World) : Prop :=
  ∃ v r, e = .returned v ∧ RowsIn (fun bl => base ≤ bl) w' v r ∧ Order r ∧ (∀ x, x ∈ r ↔ x ∈ l ∨ x = f) ∧ Below w.heap.size w w'
theorem PutSays.mk {base : Nat} {l : List (List Int)} {f : List Int} {w w' : World} {e : Ending} (v : Value) (r : List (List Int)) (h1 : e = .returned v) (h2 : RowsIn (fun bl => base ≤ bl) w' v r) (h3 : Order r) (h4 : ∀ x, x ∈ r ↔ x ∈ l ∨ x = f) (h5 : Below w.heap.size w w') : PutSays base l f w e w' := ⟨v, r, h1, h2, h3, h4, h5⟩

set_option maxRecDepth 100000 in
set_option maxHeartbeats 1000000 in
theorem put_ {base : Nat} (vl vf : Value) (l : List (List Int)) (f : List Int) (w : World) (hbase : base ≤ w.heap.size) (hl : RowsIn (fun bl => base ≤ bl) w vl l) (hf : IntsIn (fun bl => base ≤ bl) w vf f) (ho : Order l) (hll : l.length ≤ 1000) (hle : ∀ x ∈ l, x.length ≤ 1000) :
    Calls Tryz.prog 22 #[vl, vf] w fun e w' => PutSays base l f w e w' := by
  obtain ⟨i0, hi, hz0, hz1, hz2⟩ := info_parts Tryz.info39
  have HL : Hid (RowsIn (fun bl => base ≤ bl) w vl l) := hl
  have HO : Hid (Order l) := ho
  have HE : Hid (∀ x ∈ l, x.length ≤ 1000) := hle
  have HF : Hid (IntsIn (fun bl => base ≤ bl) w vf f) := hf
  obtain ⟨a, ca, rfl, hca, ha⟩ := hl.open_
  obtain ⟨af, cf, rfl, -, -⟩ := hf.open_
  clear ho hle hf
  go_enter Tryz.func22, Tryz.ntmps22
  go_wp2
  go_loopw [5, 6] (fun p q W => ∃ lo hi n : Nat, lo ≤ hi ∧ hi ≤ l.length ∧ p = .int .i64 lo ∧ q = .int .i64 hi ∧ W = w.drewN n ∧ (∀ t, t < lo → ahead (l[t]?.getD []) f = true) ∧ (∀ t, hi ≤ t → t < l.length → ahead (l[t]?.getD []) f = false))
    (fun p q _ => (intOf q).toNat - (intOf p).toNat)
  case atStart => exact ⟨0, l.length, 0, by omega, by omega, rfl, rfl, rfl, fun t ht => by omega, fun t h1 h2 => by omega⟩
  case round =>
    obtain ⟨lo, hi', n, hlh, hhl, rfl, rfl, hw, hlo, hhi⟩ := hrel
    have HW : Hid (wr = w.drewN n) := hw
    have HLO : Hid (∀ t, t < lo → ahead (l[t]?.getD []) f = true) := hlo
    have HHI : Hid (∀ t, hi' ≤ t → t < l.length → ahead (l[t]?.getD []) f = false) := hhi
    clear hlo hhi
    by_cases hlt : lo < hi'
    · obtain ⟨b, o, rfl, -, -, c⟩ := ha (by omega)
      have hm := half_int lo hi'
      obtain ⟨m, hme⟩ : ∃ m, (lo + hi') / 2 = m := ⟨_, rfl⟩
      have hm1 : lo ≤ m := by omega
      have hm2 : m < hi' := by omega
      rw [hme] at hm
      obtain ⟨a1, p1, g1, i1⟩ := c m (by omega)
      have hlen : (l[m]?.getD []).length ≤ 1000 := HE.out _ (by rw [List.getElem?_eq_getElem (by omega)]; simp)
      obtain ⟨x, hxe⟩ : ∃ x, l[m]?.getD [] = x := ⟨_, rfl⟩
      rw [hxe] at g1 i1 hlen
      have HX : Hid (l[m]?.getD [] = x) := hxe
      have g2 : wr.cell? ⟨b, o + m, none⟩ = some (.slice a1 x.length p1) := by rw [hw]; exact g1
      have hc := ahead_ _ _ x f wr (by rw [hw]; exact i1.any) (by rw [hw]; exact HF.out.any) (by omega)
      obtain ⟨c0, hce⟩ : ∃ c, ahead x f = c := ⟨_, rfl⟩
      rw [hce] at hc
      have HC : Hid (ahead x f = c0) := hce
      clear hce hxe g1 i1 c ha hme hw hl
      cases c0 with
      | true =>
        go_wp2_with (go_at_call 41; refine hc.mono ?_; rintro e w' ⟨rfl, q2, rfl⟩)
        go_roundw
        case rel => exact ⟨m + 1, hi', n + q2, by omega, by omega, by go_num, rfl, by rw [HW.out, World.drewN_drewN], fun t ht => by
          by_cases e : t = m
          · subst e; rw [HX.out]; exact HC.out
          · by_cases e2 : t < lo
            · exact HLO.out t e2
            · have := order_at HO.out (show t < m by omega) (by omega)
              rw [HX.out] at this
              exact ahead_trans _ _ _ this HC.out, HHI.out⟩
        case measure => simp [intOf]; omega
      | false =>
        go_wp2_with (go_at_call 41; refine hc.mono ?_; rintro e w' ⟨rfl, q2, rfl⟩)
        go_roundw
        case rel => exact ⟨lo, m, n + q2, by omega, by omega, rfl, by go_num, by rw [HW.out, World.drewN_drewN], HLO.out, fun t h1 h2 => by
          by_cases e : t = m
          · subst e; rw [HX.out]; exact HC.out
          · have := order_at HO.out (show m < t by omega) h2
            rw [HX.out] at this
            cases hh : ahead (l[t]?.getD []) f with
            | false => rfl
            | true => rw [ahead_trans _ _ _ this hh] at HC; exact HC.out⟩
        case measure => simp [intOf]; omega
    · obtain rfl : lo = hi' := by omega
      by_cases hll2 : lo < l.length
      · obtain ⟨b, o, rfl, -, -, c⟩ := ha (by omega)
        obtain ⟨a1, p1, g1, i1⟩ := c lo hll2
        have hlen : (l[lo]?.getD []).length ≤ 1000 := HE.out _ (by rw [List.getElem?_eq_getElem hll2]; simp)
        obtain ⟨x, hxe⟩ : ∃ x, l[lo]?.getD [] = x := ⟨_, rfl⟩
        rw [hxe] at g1 i1 hlen
        have HX : Hid (l[lo]?.getD [] = x) := hxe
        have g2 : wr.cell? ⟨b, o + lo, none⟩ = some (.slice a1 x.length p1) := by rw [hw]; exact g1
        have hc := same_ints _ _ x f wr (by rw [hw]; exact i1.any) (by rw [hw]; exact HF.out.any) (by omega)
        obtain ⟨c0, hce⟩ : ∃ c, decide (x = f) = c := ⟨_, rfl⟩
        rw [hce] at hc
        have HC : Hid (decide (x = f) = c0) := hce
        clear hce hxe g1 i1 c ha hw hl
        cases c0 with
        | true =>
          go_wp2_with (go_at_call 14; refine hc.mono ?_; rintro e w' ⟨rfl, q2, rfl⟩)
          go_ret
          have hin : f ∈ l := by
            have h1 := HX.out
            rw [of_decide_eq_true HC.out, List.getElem?_eq_getElem hll2, Option.getD_some] at h1
            exact List.mem_of_getElem h1
          refine .mk _ l rfl ?_ HO.out (fun x => ⟨.inl, fun h => h.elim id (fun e => e ▸ hin)⟩) ?_
          · rw [HW.out, World.drewN_drewN]; exact HL.out
          · rw [HW.out, World.drewN_drewN]; exact ⟨rfl, rfl, rfl, Nat.le_refl _, fun _ _ => rfl⟩
        | false =>
          have hBq : ∀ q2 W1, W1 = wr.drewN q2 → Below w.heap.size w W1 := fun q2 W1 h => by rw [h, HW.out, World.drewN_drewN]; exact ⟨rfl, rfl, rfl, Nat.le_refl _, fun _ _ => rfl⟩
          obtain ⟨vs, hs0, hvl, hvr⟩ := HL.out
          have hs := SliceIn.mono (S' := anyBlock) hs0 (fun _ _ _ => trivial)
          have hvone : ∀ c ∈ vs, c.oneCell' = true := fun c hc => by
            obtain ⟨t, ht, e⟩ := List.getElem_of_mem hc
            exact (hvr t c (l[t]'(by omega)) (by rw [List.getElem?_eq_getElem ht, e]) (List.getElem?_eq_getElem (by omega))).one
          have HVR : Hid (∀ (k : Nat) (u : Value) (x : List Int), vs[k]? = some u → l[k]? = some x → IntsIn (fun bl => base ≤ bl) w u x) := hvr
          clear hvr
          go_wp2_with (first
            | (go_at_call 14; refine hc.mono ?_; rintro e W1 ⟨rfl, q2, hW1⟩; have hB1 := hBq q2 W1 hW1; clear hW1; have hs1 := hs.below hB1)
                      | (at_builtin; refine wpList_append_slice rfl (.tmp 42) (.tmp 45) 22 rfl W1.heap.size 39 i0 (.slice none 0 0) 24 Tryz.underlying22 hi hz0 hz1 hz2 rfl (.slice none 0 0) 0 [] rfl (World.ownsRow_nil _ _ _ _) _ (vs.take lo) rfl (hs1.upto (by omega)) (one_take hvone _) (by simp; omega) (by unfold maxLen; simp; omega) (Nat.le_refl _) ?_; intro v1 w2 hown1 hg1 hl1)
            | (at_builtin; refine wpList_append_slice rfl (.tmp 47) (.tmp 49) 22 rfl W1.heap.size 39 i0 (.slice none 0 0) 24 Tryz.underlying22 hi hz0 hz1 hz2 rfl _ _ _ rfl (hown1.alloc _) _ [.slice af f.length cf] rfl (slice_one _ _ _) (by simp [Value.oneCell']) (by simp; omega) (by unfold maxLen; simp; omega) (by have := hg1.size; simp; omega) ?_; intro v2 w3 hown2 hg2 hl2; have hB3 := below_two hg1 hown1 hg2; have i4 := hs1.below hB3)
            | (at_builtin; refine wpList_append_slice rfl (.tmp 51) (.tmp 54) 22 rfl W1.heap.size 39 i0 (.slice none 0 0) 24 Tryz.underlying22 hi hz0 hz1 hz2 rfl _ _ _ rfl hown2 _ (vs.drop lo) rfl (by first | exact i4.behind (by omega) | exact i4.behind_at (by omega) | exact i4.behind_some (by omega)) (one_drop hvone _) (by simp; omega) (by unfold maxLen; simp; omega) hB3.size ?_; intro v3 w4 hown3 hg3 hl3; have hB4 := below_three hB3 hown2 hg3)
            | go_in)
          go_ret
          have hBw : Below w.heap.size w w4 := hB1.trans (hB4.mono hB1.size)
          exact .mk _ (l.take lo ++ ([f] ++ l.drop lo)) rfl (rows_ins hBw hvl HVR.out HF.out (by omega) (fun b h => Nat.le_trans hbase (Nat.le_trans hB1.size h)) hown3) (ins_order HO.out (by omega) HLO.out HHI.out (fun _ => by rw [HX.out]; exact of_decide_eq_false HC.out)) (fun x => ins_mem' x) hBw
      · obtain ⟨W1, hW1⟩ : ∃ W, W = wr := ⟨_, rfl⟩
        have hB1 : Below w.heap.size w W1 := by rw [hW1, hw]; exact ⟨rfl, rfl, rfl, Nat.le_refl _, fun _ _ => rfl⟩
        subst hW1
        clear ha hw hl
        obtain ⟨vs, hs0, hvl, hvr⟩ := HL.out
        have hs := SliceIn.mono (S' := anyBlock) hs0 (fun _ _ _ => trivial)
        have hvone : ∀ c ∈ vs, c.oneCell' = true := fun c hc => by
          obtain ⟨t, ht, e⟩ := List.getElem_of_mem hc
          exact (hvr t c (l[t]'(by omega)) (by rw [List.getElem?_eq_getElem ht, e]) (List.getElem?_eq_getElem (by omega))).one
        have HVR : Hid (∀ (k : Nat) (u : Value) (x : List Int), vs[k]? = some u → l[k]? = some x → IntsIn (fun bl => base ≤ bl) w u x) := hvr
        clear hvr
        have hs1 := hs.below hB1
        have hdn : vs.drop lo = [] := List.drop_of_length_le (by omega)
        by_cases hcl : ca = lo
        · subst hcl
          have HE2 : Hid (∀ W, SliceIn anyBlock W (.slice a 0 0) (vs.drop ca)) := fun W => SliceIn.empty (fun _ => rfl) rfl hdn
          clear hdn
          go_wp2_with (first
            | (at_builtin; refine wpList_append_slice rfl (.tmp 42) (.tmp 45) 22 rfl W1.heap.size 39 i0 (.slice none 0 0) 24 Tryz.underlying22 hi hz0 hz1 hz2 rfl (.slice none 0 0) 0 [] rfl (World.ownsRow_nil _ _ _ _) _ (vs.take ca) rfl (hs1.upto (by omega)) (one_take hvone _) (by simp; omega) (by unfold maxLen; simp; omega) (Nat.le_refl _) ?_; intro v1 w2 hown1 hg1 hl1)
            | (at_builtin; refine wpList_append_slice rfl (.tmp 47) (.tmp 49) 22 rfl W1.heap.size 39 i0 (.slice none 0 0) 24 Tryz.underlying22 hi hz0 hz1 hz2 rfl _ _ _ rfl (hown1.alloc _) _ [.slice af f.length cf] rfl (slice_one _ _ _) (by simp [Value.oneCell']) (by simp; omega) (by unfold maxLen; simp; omega) (by have := hg1.size; simp; omega) ?_; intro v2 w3 hown2 hg2 hl2; have hB3 := below_two hg1 hown1 hg2)
            | (at_builtin; refine wpList_append_slice rfl (.tmp 51) (.tmp 54) 22 rfl W1.heap.size 39 i0 (.slice none 0 0) 24 Tryz.underlying22 hi hz0 hz1 hz2 rfl _ _ _ rfl hown2 _ (vs.drop ca) rfl (HE2.out _) (one_drop hvone _) (by simp; omega) (by unfold maxLen; simp; omega) hB3.size ?_; intro v3 w4 hown3 hg3 hl3; have hB4 := below_three hB3 hown2 hg3)
            | go_in)
          go_ret
          have hBw : Below w.heap.size w w4 := hB1.trans (hB4.mono hB1.size)
          exact .mk _ (l.take ca ++ ([f] ++ l.drop ca)) rfl (rows_ins hBw hvl HVR.out HF.out (by omega) (fun b h => Nat.le_trans hbase (Nat.le_trans hB1.size h)) hown3) (ins_order HO.out (by omega) HLO.out HHI.out (fun h => absurd h hll2)) (fun x => ins_mem' x) hBw
        · have HE2 : Hid (∀ W, SliceIn anyBlock W (.slice (Option.map (fun x => x.add lo) a) (l.length - lo) (ca - lo)) (vs.drop lo)) := fun W => SliceIn.empty (fun h => by
            have := hca.2 (by simpa using h)
            omega) (by omega) hdn
          clear hdn
          go_wp2_with (first
            | (at_builtin; refine wpList_append_slice rfl (.tmp 42) (.tmp 45) 22 rfl W1.heap.size 39 i0 (.slice none 0 0) 24 Tryz.underlying22 hi hz0 hz1 hz2 rfl (.slice none 0 0) 0 [] rfl (World.ownsRow_nil _ _ _ _) _ (vs.take lo) rfl (hs1.upto (by omega)) (one_take hvone _) (by simp; omega) (by unfold maxLen; simp; omega) (Nat.le_refl _) ?_; intro v1 w2 hown1 hg1 hl1)
            | (at_builtin; refine wpList_append_slice rfl (.tmp 47) (.tmp 49) 22 rfl W1.heap.size 39 i0 (.slice none 0 0) 24 Tryz.underlying22 hi hz0 hz1 hz2 rfl _ _ _ rfl (hown1.alloc _) _ [.slice af f.length cf] rfl (slice_one _ _ _) (by simp [Value.oneCell']) (by simp; omega) (by unfold maxLen; simp; omega) (by have := hg1.size; simp; omega) ?_; intro v2 w3 hown2 hg2 hl2; have hB3 := below_two hg1 hown1 hg2)
            | (at_builtin; refine wpList_append_slice rfl (.tmp 51) (.tmp 54) 22 rfl W1.heap.size 39 i0 (.slice none 0 0) 24 Tryz.underlying22 hi hz0 hz1 hz2 rfl _ _ _ rfl hown2 _ (vs.drop lo) rfl (HE2.out _) (one_drop hvone _) (by simp; omega) (by unfold maxLen; simp; omega) hB3.size ?_; intro v3 w4 hown3 hg3 hl3; have hB4 := below_three hB3 hown2 hg3)
            | go_in)
          go_ret
          have hBw : Below w.heap.size w w4 := hB1.trans (hB4.mono hB1.size)
          exact .mk _ (l.take lo ++ ([f] ++ l.drop lo)) rfl (rows_ins hBw hvl HVR.out HF.out (by omega) (fun b h => Nat.le_trans hbase (Nat.le_trans hB1.size h)) hown3) (ins_order HO.out (by omega) HLO.out HHI.out (fun h => absurd h hll2)) (fun x => ins_mem' x) hBw

end Go.Proofs.YtldknhganoiajaaGreatDoor

namespace Go.Proofs.YtldknhganoiajaaGreatDoor

/-- A set's numbers, rising. -/
def srt (l : List Int) : List Int := l.mergeSort (fun x y => decide (x ≤ y))
theorem srt_mem (l : List Int) (v : Int) : v ∈ srt l ↔ v ∈ l := (List.mergeSort_perm l _).mem_iff
theorem srt_length (l : List Int) : (srt l).length = l.length := (List.mergeSort_perm l _).length_eq
theorem srt_rising {l : List Int} (h : l.Nodup) : Rising (srt l) := by
  have hs : (srt l).Pairwise (fun a b => decide (a ≤ b) = true) := List.pairwise_mergeSort (fun a b c h1 h2 => by simp at h1 h2 ⊢; omega) (fun a b => by simp; omega) l
  have hn : (srt l).Nodup := (List.mergeSort_perm l _).nodup_iff.2 h
  refine (hs.and hn).imp ?_
  rintro a b ⟨h1, h2⟩
  simp at h1
  omega
theorem srt_told {l out : List Int} (h : l.Nodup) (hr : Rising out) (hm : ∀ v, v ∈ out ↔ v ∈ l) : out = srt l := rising_told hr (srt_rising h) (fun v => by rw [hm, srt_mem])

theorem text_srt {l : List Int} {t : List UInt8} (h : SetOk l) (ht : TextOf l t) : ints t = srt l := text_sorted ht (srt_rising h.2.1) (fun v => srt_mem l v)
theorem text_len {l : List Int} {t : List UInt8} (h : SetOk l) (ht : TextOf l t) : t.length = l.length := by rw [← ints_length, text_srt h ht, srt_length]

end Go.Proofs.YtldknhganoiajaaGreatDoor

namespace Go.Proofs.YtldknhganoiajaaGreatDoor
open Go.RowKit Go.Sort

theorem not_ok_empty {l out : List Int} (hm : ∀ v, v ∈ out ↔ v ∈ l) (h : out.length = 0) : ¬ SetOk l := fun hk => by
  have : out = [] := List.length_eq_zero_iff.1 h
  subst this
  cases l with
  | nil => exact hk.1 rfl
  | cons a l => exact absurd ((hm a).2 (by simp)) (by simp)
theorem not_ok_low {l out : List Int} (hm : ∀ v, v ∈ out ↔ v ∈ l) (h : 0 < out.length) (hy : out[0]?.getD 0 < 0) : ¬ SetOk l := fun hk => by
  rw [List.getElem?_eq_getElem h, Option.getD_some] at hy
  have := (hk.2.2 _ ((hm _).1 (List.getElem_mem h))).1
  omega
theorem not_ok_high {l out : List Int} (hm : ∀ v, v ∈ out ↔ v ∈ l) (h : 0 < out.length) (hy : 99 < out[out.length - 1]?.getD 0) : ¬ SetOk l := fun hk => by
  have h' : out.length - 1 < out.length := by omega
  rw [List.getElem?_eq_getElem h', Option.getD_some] at hy
  have := (hk.2.2 _ ((hm _).1 (List.getElem_mem h'))).2
  omega
theorem ok_of {l out : List Int} (hn : l.Nodup) (hr : Rising out) (hm : ∀ v, v ∈ out ↔ v ∈ l) (h : 0 < out.length) (h1 : ¬ out[0]?.getD 0 < 0) (h2 : ¬ 99 < out[out.length - 1]?.getD 0) : SetOk l := by
  have h' : out.length - 1 < out.length := by omega
  rw [List.getElem?_eq_getElem h, Option.getD_some] at h1
  rw [List.getElem?_eq_getElem h', Option.getD_some] at h2
  refine ⟨fun e => ?_, hn, fun v hv => ?_⟩
  · have := (hm _).1 (List.getElem_mem h)
    rw [e] at this; cases this
  · obtain ⟨t, ht, e⟩ := List.getElem_of_mem ((hm v).2 hv)
    have hp := List.pairwise_iff_getElem.1 hr
    constructor
    · by_cases e0 : t = 0
      · subst e0; omega
      · have := hp 0 t h ht (by omega); omega
    · by_cases e0 : t = out.length - 1
      · subst e0; omega
      · have := hp t (out.length - 1) ht h' (by omega); omega

/-- What Closed answers. -/
def ClosedSays (l : List (List Int)) (w : World) (e : Ending) (w' : World) : Prop :=
  Below w.heap.size w w' ∧
    ((¬ (∀ x ∈ l, SetOk x) ∧ e = .returned (.tuple #[.slice none 0 0, .int .i64 4])) ∨
     ((∀ x ∈ l, SetOk x) ∧ Over (l.map srt) ∧ e = .returned (.tuple #[.slice none 0 0, .int .i64 2])) ∨
     ((∀ x ∈ l, SetOk x) ∧ ¬ Over (l.map srt) ∧ ∃ v all, e = .returned (.tuple #[v, .int .i64 0]) ∧ RowsIn (fun bl => w.heap.size ≤ bl) w' v all ∧ IsAll (l.map srt) all ∧ all.length ≤ 600))

theorem ClosedSays.bad {l : List (List Int)} {w : World} {e : Ending} {w' : World} (hB : Below w.heap.size w w') {k : Nat} (hk : k < l.length) (h : ¬ SetOk (l[k]?.getD [])) (he : e = .returned (.tuple #[.slice none 0 0, .int .i64 4])) : ClosedSays l w e w' :=
  ⟨hB, .inl ⟨fun ha => h (by rw [List.getElem?_eq_getElem hk, Option.getD_some]; exact ha _ (List.getElem_mem hk)), he⟩⟩

theorem take_ok {l : List (List Int)} {k : Nat} (hk : k < l.length) (h : ∀ x ∈ l.take k, SetOk x) (hx : SetOk (l[k]?.getD [])) : ∀ x ∈ l.take (k + 1), SetOk x := by
  rw [List.getElem?_eq_getElem hk, Option.getD_some] at hx
  rw [List.take_add_one, List.getElem?_eq_getElem hk]
  intro x hm
  rcases List.mem_append.1 hm with a | a
  · exact h x a
  · simp at a; subst a; exact hx
theorem take_map_snoc {l : List (List Int)} {k : Nat} (hk : k < l.length) : (l.take (k + 1)).map srt = (l.take k).map srt ++ [srt (l[k]?.getD [])] := by
  rw [List.take_add_one, List.getElem?_eq_getElem hk, List.map_append, Option.getD_some]
  rfl

theorem bit_int (n j : Nat) : ((((n : Int) / 2 ^ j).tmod 2) == 1) = decide (n / 2 ^ j % 2 = 1) := by
  have h : (n : Int) / 2 ^ j = ((n / 2 ^ j : Nat) : Int) := by rw [Int.natCast_ediv, Int.natCast_pow]; rfl
  rw [h]
  generalize n / 2 ^ j = m
  have h2 : ((m : Int).tmod 2) = ((m % 2 : Nat) : Int) := by rw [Int.tmod_eq_emod_of_nonneg (by omega)]; omega
  rw [h2]
  by_cases h3 : m % 2 = 1
  · rw [h3]; rfl
  · rw [decide_eq_false h3]
    exact beq_false_of_ne (by omega)
theorem wrap64_small (n : Int) (h0 : 0 ≤ n) (h1 : n ≤ 1000) : wrap64 n = n := by unfold wrap64; omega

theorem face_take {ts : List (List Int)} {k : Nat} {x : List Int} (h : FaceOf (ts.take k) x) : FaceOf ts x := by
  obtain ⟨h1, t, ht, hs⟩ := h
  exact ⟨h1, t, List.mem_of_mem_take ht, hs⟩
theorem faces_step {ts : List (List Int)} {k : Nat} {t : List Int} (hk : k < ts.length) (ht : ts[k]?.getD [] = t) (x : List Int) :
    (FaceOf (ts.take k) x ∨ ∃ b, 1 ≤ b ∧ b < 2 ^ t.length ∧ x = pick b t) ↔ FaceOf (ts.take (k + 1)) x := by
  have ht' : ts[k]? = some t := by rw [List.getElem?_eq_getElem hk] at ht ⊢; simpa using ht
  have hm : ∀ u, u ∈ ts.take (k + 1) ↔ u ∈ ts.take k ∨ u = t := fun u => by
    rw [List.take_add_one, ht', List.mem_append]
    simp only [Option.toList, List.mem_singleton]
  constructor
  · rintro (⟨h1, u, hu, hs⟩ | ⟨b, h1, h2, rfl⟩)
    · exact ⟨h1, u, (hm u).2 (.inl hu), hs⟩
    · exact ⟨pick_ne b t h1 h2, t, (hm t).2 (.inr rfl), pick_sub b t⟩
  · rintro ⟨h1, u, hu, hs⟩
    rcases (hm u).1 hu with h | h
    · exact .inl ⟨h1, u, h, hs⟩
    · subst h
      obtain ⟨b, hb, e⟩ := pick_all hs
      refine .inr ⟨b, ?_, hb, e.symm⟩
      rcases Nat.eq_zero_or_pos b with h0 | h0
      · subst h0; rw [pick_zero] at e; exact absurd e.symm h1
      · exact h0
theorem pick_face {ts : List (List Int)} {k n : Nat} {t : List Int} (hk : k < ts.length) (ht : ts[k]?.getD [] = t) (h1 : 1 ≤ n) (h2 : n < 2 ^ t.length) : FaceOf ts (pick n t) := by
  refine ⟨pick_ne n t h1 h2, t, ?_, pick_sub n t⟩
  rw [List.getElem?_eq_getElem hk, Option.getD_some] at ht
  exact ht ▸ List.getElem_mem hk
theorem take_short {ts : List (List Int)} {k : Nat} {t : List Int} (hk : k < ts.length) (ht : ts[k]?.getD [] = t) (h7 : t.length ≤ 7) (h : ∀ u ∈ ts.take k, u.length ≤ 7) : ∀ u ∈ ts.take (k + 1), u.length ≤ 7 := by
  have ht' : ts[k]? = some t := by rw [List.getElem?_eq_getElem hk] at ht ⊢; simpa using ht
  intro u hu
  rw [List.take_add_one, ht', List.mem_append] at hu
  rcases hu with a | a
  · exact h u a
  · simp at a; subst a; exact h7
theorem over_big {ts : List (List Int)} {k : Nat} {t : List Int} (hk : k < ts.length) (ht : ts[k]?.getD [] = t) (h7 : 7 < t.length) : Over ts := by
  rw [List.getElem?_eq_getElem hk, Option.getD_some] at ht
  exact .inl ⟨t, ht ▸ List.getElem_mem hk, h7⟩
theorem not_over {ts all : List (List Int)} (h : IsAll ts all) (h7 : ∀ t ∈ ts, t.length ≤ 7) (h6 : all.length ≤ 600) : ¬ Over ts := by
  rintro (⟨t, ht, hl⟩ | ⟨X, hn, hl, hx⟩)
  · have := h7 t ht; omega
  · have := nodup_le hn (fun x hx' => (h.mem x).2 (hx x hx')); omega
theorem faces_short {ts all : List (List Int)} {k n : Nat} {t : List Int} (h7 : t.length ≤ 7) (h : ∀ u ∈ ts.take k, u.length ≤ 7) (hm : ∀ x, x ∈ all ↔ FaceOf (ts.take k) x ∨ ∃ b, 1 ≤ b ∧ b < n ∧ x = pick b t) : ∀ x ∈ all, x.length ≤ 1000 := fun x hx => by
  rcases (hm x).1 hx with ⟨_, u, hu, hs⟩ | ⟨b, _, _, rfl⟩
  · have := hs.length_le; have := h u hu; omega
  · have := (pick_sub b t).length_le; omega
theorem over_put {ts all r : List (List Int)} {k n N : Nat} {t : List Int} (hk : k < ts.length) (ht : ts[k]?.getD [] = t) (hN : N = 2 ^ t.length) (h1 : 1 ≤ n) (h2 : n < N)
    (hm : ∀ x, x ∈ all ↔ FaceOf (ts.take k) x ∨ ∃ b, 1 ≤ b ∧ b < n ∧ x = pick b t) (hr : ∀ x, x ∈ r ↔ x ∈ all ∨ x = pick n t) (ho : Order r) (h6 : 600 < r.length) : Over ts :=
  .inr ⟨r, order_nodup ho, h6, fun x hx => by
    rcases (hr x).1 hx with h | h
    · rcases (hm x).1 h with h | ⟨b, h3, h4, rfl⟩
      · exact face_take h
      · exact pick_face hk ht h3 (by rw [← hN]; omega)
    · subst h; exact pick_face hk ht h1 (by rw [← hN]; omega)⟩
theorem mem_put {ts all r : List (List Int)} {k n : Nat} {t : List Int} (h1 : 1 ≤ n)
    (hm : ∀ x, x ∈ all ↔ FaceOf (ts.take k) x ∨ ∃ b, 1 ≤ b ∧ b < n ∧ x = pick b t) (hr : ∀ x, x ∈ r ↔ x ∈ all ∨ x = pick n t) (x : List Int) : x ∈ r ↔ FaceOf (ts.take k) x ∨ ∃ b, 1 ≤ b ∧ b < n + 1 ∧ x = pick b t := by
  rw [hr, hm, or_assoc]
  refine or_congr Iff.rfl ⟨fun h => ?_, fun ⟨b, h3, h4, h5⟩ => ?_⟩
  · rcases h with ⟨b, h3, h4, h5⟩ | h
    · exact ⟨b, h3, by omega, h5⟩
    · exact ⟨n, h1, by omega, h⟩
  · by_cases e : b = n
    · subst e; exact .inr h5
    · exact .inl ⟨b, h3, by omega, h5⟩
theorem below4 {w W0 W3 w4 : World} (hB : Below w.heap.size w W0) (hB3 : Below W0.heap.size W0 W3) (hB4 : Below W3.heap.size W3 w4) : Below w.heap.size w w4 :=
  (hB.trans (hB3.mono hB.size)).trans (hB4.mono (hB.trans (hB3.mono hB.size)).size)
theorem below_push {W wr w5 : World} {e : TypeId} {v : Value} {n : Nat} {xs : List Value} {o : Obj} (h : Below W.heap.size W wr) (ho : wr.ownsRow W.heap.size e 1 v n xs) (hg : (wr.alloc o).grownBy w5 v.ownBlock) : Below W.heap.size W w5 :=
  (h.alloc h.size o).grown hg (by have := h.size; simp; omega) (fun i hi => (ho.lt i hi).1)

theorem ClosedSays.over {l ts : List (List Int)} {w : World} {e : Ending} {w' : World} (hB : Below w.heap.size w w') (hk : ∀ x ∈ l, SetOk x) (ht : l.map srt = ts) (ho : Over ts) (he : e = .returned (.tuple #[.slice none 0 0, .int .i64 2])) : ClosedSays l w e w' :=
  ⟨hB, .inr (.inl ⟨hk, ht ▸ ho, he⟩)⟩
theorem ClosedSays.good {l ts all : List (List Int)} {w : World} {e : Ending} {w' : World} {v : Value} (hB : Below w.heap.size w w') (hk : ∀ x ∈ l, SetOk x) (ht : l.map srt = ts) (ho : ¬ Over ts) (he : e = .returned (.tuple #[v, .int .i64 0])) (hr : RowsIn (fun bl => w.heap.size ≤ bl) w' v all) (ha : IsAll ts all) (h6 : all.length ≤ 600) : ClosedSays l w e w' :=
  ⟨hB, .inr (.inr ⟨hk, ht ▸ ho, v, all, he, hr, ht ▸ ha, h6⟩)⟩

theorem shl_int {n : Nat} (h : n ≤ 7) : wrap64 ((2 : Int) ^ n) = ((2 ^ n : Nat) : Int) := by
  match n, h with
  | 0, _ | 1, _ | 2, _ | 3, _ | 4, _ | 5, _ | 6, _ | 7, _ => rw [wrap64_small _ (by decide) (by decide)]; rfl
  | n + 8, h => omega

/-- Closed answers so. -/
def ClosedHolds : Prop := ∀ (vl : Value) (l : List (List Int)) (w : World), Rows w vl l → l.length ≤ 100000 → (∀ x ∈ l, x.length ≤ 1000) → Calls Tryz.prog 10 #[vl] w fun e w' => ClosedSays l w e w'

end Go.Proofs.YtldknhganoiajaaGreatDoor
