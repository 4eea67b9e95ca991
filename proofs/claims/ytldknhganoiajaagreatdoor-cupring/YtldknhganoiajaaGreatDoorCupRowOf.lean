/- What a row tells: its numbers, rising; a row of a list. A row of a list of numbers; a row once more. -/
import Derived.Test.YtldknhganoiajaaGreatDoorVector
namespace Go.Proofs.YtldknhganoiajaaGreatDoor
open Go.RowKit Go.Sort

def natsI (l : List Nat) : List Int := l.map (fun (k : Nat) => (k : Int))
theorem natsI_snoc (l : List Nat) (k : Nat) : (natsI (l ++ [k])).map (Value.int .i64) = (natsI l).map (Value.int .i64) ++ [.int .i64 (k : Int)] := by simp [natsI]
theorem natsI_len (l : List Nat) : (natsI l).length = l.length := by simp [natsI]
/-- The numbers of a word, rising. -/
def bitsI (x : Nat) : List Int := natsI (bitsN x)
theorem bitsN_len (x : Nat) : (bitsN x).length ≤ 64 := by
  have := List.length_filter_le (fun k => x.testBit k) (List.range 64)
  rw [List.length_range] at this
  exact this

set_option maxRecDepth 100000 in
set_option maxHeartbeats 1000000 in
theorem told_row {S : Nat → Prop} (v : Value) (n x : Nat) (w : World) (h : WordIn S w v n x) (hT : TabOk w) :
    Calls Tryz.prog 30 #[v] w fun e w' => ∃ u, e = .returned u ∧ IntsIn (fun b => w.heap.size ≤ b) w' u (bitsI x) ∧ Below w.heap.size w w' := by
  obtain ⟨i0, hi, hz0, hz1, hz2⟩ := info_parts Tryz.info3
  have hlt := h.lt
  obtain ⟨h1, h2, ⟨h3, a, c, rfl⟩ | ⟨h3, b, c, rfl, hc, hb, hl, h4, h5⟩⟩ := h
  · have HX : Hid (x = 0) := by show x = 0; subst h3; simpa using h1
    clear h1 h2 h3 hlt
    go_enter Tryz.func30, Tryz.ntmps30
    go_wp2_with fail
    go_loopw [8, 3] (fun p v W => p = .int .i64 0 ∧ v = .slice none 0 0 ∧ w = W) (fun _ _ _ => 0)
    case atStart => exact ⟨rfl, rfl, rfl⟩
    case round =>
      obtain ⟨rfl, rfl, rfl⟩ := hrel
      go_wp2_with fail
      go_ret
      exact ⟨_, rfl, by rw [HX.out]; show IntsIn _ _ (.slice none 0 0) []; exact SliceIn.nil _ _, Below.refl _ _⟩
  · have HX := Hid.mk' hlt
    have HT := Hid.mk' hT
    clear h1 h2 h3 hlt hT
    go_enter Tryz.func30, Tryz.ntmps30
    go_wp2_with fail
    go_loopw [8, 3] (fun p v W => (p = .int .i64 0 ∧ v = .slice none 0 0 ∧ w = W) ∨ (p = .int .i64 1 ∧ (∃ a m c, v = .slice a m c) ∧ Hid (IntsIn (fun b => w.heap.size ≤ b) W v (bitsI x) ∧ Below w.heap.size w W))) (fun p _ _ => 1 - (intOf p).toNat)
    case atStart => exact .inl ⟨rfl, rfl, rfl⟩
    case round =>
      rcases hrel with ⟨rfl, rfl, rfl⟩ | ⟨rfl, ⟨a, m, c', rfl⟩, HE⟩
      · go_wp2_with fail
        go_loopw [3, 5] (fun v u W => ∃ (y : Nat) (xs : List Nat), u = .int .u64 (y : Int) ∧ Hid (y < 2 ^ 64 ∧ bitsN x = xs ++ bitsN y ∧ W.ownsRow w.heap.size 3 1 v xs.length ((natsI xs).map (Value.int .i64)) ∧ Below w.heap.size w W)) (fun _ u _ => (bitsN (intOf u).toNat).length)
        case atStart => exact ⟨x, [], rfl, HX.out, rfl, World.ownsRow_nil _ _ _ _, Below.refl _ _⟩
        case round =>
          obtain ⟨y, xs, rfl, HY⟩ := hrel
          obtain ⟨a3, c3, rfl⟩ := own_form HY.out.2.2.1
          rcases Nat.eq_zero_or_pos y with h0 | h0
          · subst h0
            go_wp2_with fail
            go_roundw
            case rel =>
              refine .inr ⟨rfl, ⟨_, _, _, rfl⟩, ?_⟩
              have hs := slice_of_owns (S := fun b => w.heap.size ≤ b) HY.out.2.2.1 (fun b hb _ => hb)
              have e : bitsN x = xs := by rw [HY.out.2.1, bitsN_zero, List.append_nil]
              exact ⟨by unfold IntsIn bitsI; rw [e]; exact hs, HY.out.2.2.2⟩
            case measure => simp [intOf]
          · have hne : ((y : Int) != 0) = true := by simp; omega
            have htz := fun V (hV : TabOk V) => tz_ y (by omega) HY.out.1 V hV
            have hlo := (low_bits (by omega) HY.out.1).1
            have hlen : xs.length ≤ 64 := by have := bitsN_len x; rw [HY.out.2.1] at this; simp at this; omega
            obtain ⟨k, hk⟩ : ∃ k, low y = k := ⟨_, rfl⟩
            have HK := Hid.mk' hk
            have HTW := Hid.mk' (HT.out.below HY.out.2.2.2)
            rw [hk] at htz hlo
            have e8 : bits BinOp.and .u64 (y : Int) (IntKind.u64.wrap ((y : Int) - 1)) = ((y &&& (y - 1) : Nat) : Int) := by
              have e9 : IntKind.u64.wrap ((y : Int) - 1) = ((y - 1 : Nat) : Int) := by
                have := HY.out.1
                rw [IntKind.wrap_u64]
                omega
              rw [e9]
              exact bits_and_u64_nat y (y - 1) HY.out.1 (by have := HY.out.1; omega)
            have e7 : IntKind.u64.wrap ((y : Int) - 1) = (y : Int) - 1 := by
              have := HY.out.1
              rw [IntKind.wrap_u64]
              omega
            have H8 := Hid.mk' e8
            clear hk e8
            go_wp2_with (first
              | (go_at_call 54; refine (htz _ HTW.out).mono ?_; rintro e V ⟨rfl, rfl⟩)
              | (at_builtin; refine wpList_append_slice rfl (.tmp 19) (.tmp 25) 39 rfl w.heap.size 3 i0 (.int .i64 0) 8 Tryz.underlying39 hi hz0 hz1 hz2 rfl _ _ _ rfl (HY.out.2.2.1.alloc _) _ [.int .i64 (k : Int)] rfl (slice_one _ _ _) (by simp [Value.oneCell']) (by simp; omega) (by unfold maxLen; simp; omega) (by have := HY.out.2.2.2.size; simp; omega) ?_; intro v4 w4 hown4 hg4 hl4)
              | fail)
            (try go_frame)
            have hown5 : w4.ownsRow w.heap.size 3 1 v4 (xs ++ [k]).length ((natsI (xs ++ [k])).map (Value.int .i64)) := by rw [natsI_snoc, List.length_append]; exact hown4
            have HB4 : Hid (Below w.heap.size w w4) := (HY.out.2.2.2.alloc HY.out.2.2.2.size _).grown hg4 (by have := HY.out.2.2.2.size; simp; omega) (fun j hj => by have := (HY.out.2.2.1.lt j hj).1; omega)
            have HO5 := Hid.mk' hown5
            obtain ⟨a5, c5, rfl⟩ := own_form hown5
            have HYL : Hid (bitsN y = k :: bitsN (y &&& (y - 1))) := by
              show bitsN y = k :: bitsN (y &&& (y - 1))
              rw [bitsN_low (by omega) HY.out.1, HK.out]
            have HYY : Hid (y < 2 ^ 64 ∧ bitsN x = xs ++ bitsN y) := ⟨HY.out.1, HY.out.2.1⟩
            clear hown4 hown5 hg4 hl4 HY HTW htz
            go_wp2_with fail
            go_roundw
            case rel =>
              refine ⟨y &&& (y - 1), xs ++ [k], ?_, ?_⟩
              · rw [← H8.out, e7]
              · refine ⟨and_pred_lt HYY.out.1, ?_, HO5.out, HB4.out⟩
                rw [HYY.out.2, HYL.out]; simp
            case measure =>
              have e : (intOf (.int .u64 (bits BinOp.and .u64 (y : Int) ((y : Int) - 1)))).toNat = y &&& (y - 1) := by
                have := H8.out
                rw [e7] at this
                rw [this]; simp [intOf]
              simp [intOf] at e ⊢
              first
                | (rw [e, HYL.out]; simp; done)
                | (rw [HYL.out]; simp [e])
      · go_wp2_with fail
        go_ret
        exact ⟨_, rfl, HE.out.1, HE.out.2⟩

end Go.Proofs.YtldknhganoiajaaGreatDoor

namespace Go.Proofs.YtldknhganoiajaaGreatDoor
open Go.RowKit Go.Sort

/-- A cochain as it is told: numbers below n that rise. -/
def OkCo (n : Nat) (f : List Int) : Prop := Rising f ∧ ∀ v ∈ f, 0 ≤ v ∧ v < (n : Int)
/-- .. as a word. -/
def maskN (f : List Int) : Nat := f.foldl (fun x i => x ^^^ 2 ^ i.toNat) 0
theorem take_co {f : List Int} {k : Nat} (hk : k < f.length) : f.take (k + 1) = f.take k ++ [f[k]?.getD 0] := by
  rw [List.take_add_one, List.getElem?_eq_getElem hk]; rfl
theorem maskN_take {f : List Int} {k : Nat} (hk : k < f.length) : maskN (f.take (k + 1)) = maskN (f.take k) ^^^ 2 ^ (f[k]?.getD 0).toNat := by
  unfold maskN
  rw [take_co hk, List.foldl_append]; rfl
theorem rising_last {f : List Int} {k : Nat} (hk : k < f.length) (h : Rising (f.take k)) (h0 : 0 < k) : ∀ v ∈ f.take k, v ≤ f[k - 1]?.getD 0 := fun v hv => by
  obtain ⟨j, rfl⟩ : ∃ j, k = j + 1 := ⟨k - 1, by omega⟩
  have hj : j < f.length := by omega
  rw [take_co hj] at h hv
  rw [Nat.add_sub_cancel]
  rcases List.mem_append.1 hv with hv | hv
  · have := (List.pairwise_append.1 h).2.2 v hv _ (List.mem_singleton.2 rfl)
    omega
  · rw [List.mem_singleton] at hv; omega
theorem okCo_succ {n : Nat} {f : List Int} {k : Nat} (hk : k < f.length) : OkCo n (f.take (k + 1)) ↔ OkCo n (f.take k) ∧ 0 ≤ f[k]?.getD 0 ∧ f[k]?.getD 0 < (n : Int) ∧ (0 < k → f[k - 1]?.getD 0 < f[k]?.getD 0) := by
  unfold OkCo
  constructor
  · rintro ⟨h1, h2⟩
    rw [take_co hk] at h1 h2
    have h3 := List.pairwise_append.1 h1
    have hl := h2 (f[k]?.getD 0) (List.mem_append_right _ (List.mem_singleton.2 rfl))
    refine ⟨⟨h3.1, fun v hv => h2 v (List.mem_append_left _ hv)⟩, hl.1, hl.2, fun h0 => h3.2.2 _ ?_ _ (List.mem_singleton.2 rfl)⟩
    obtain ⟨j, rfl⟩ : ∃ j, k = j + 1 := ⟨k - 1, by omega⟩
    rw [take_co (show j < f.length by omega), Nat.add_sub_cancel]
    exact List.mem_append_right _ (List.mem_singleton.2 rfl)
  · rintro ⟨⟨h1, h2⟩, h3, h4, h5⟩
    rw [take_co hk]
    refine ⟨List.pairwise_append.2 ⟨h1, List.pairwise_singleton _ _, fun a ha b hb => ?_⟩, fun v hv => ?_⟩
    · rw [List.mem_singleton] at hb
      subst hb
      rcases Nat.eq_zero_or_pos k with h0 | h0
      · subst h0; simp at ha
      · have := rising_last hk h1 h0 a ha
        have := h5 h0
        omega
    · rcases List.mem_append.1 hv with hv | hv
      · exact h2 v hv
      · rw [List.mem_singleton] at hv; subst hv; exact ⟨h3, h4⟩
theorem okCo_take {n : Nat} {f : List Int} (h : OkCo n f) (k : Nat) : OkCo n (f.take k) := ⟨h.1.sublist (List.take_sublist _ _), fun v hv => h.2 v (List.mem_of_mem_take hv)⟩
theorem okCo_len {n : Nat} {f : List Int} (h : OkCo n f) : f.length ≤ n := by
  have h1 : (f.map Int.toNat).Nodup := by
    unfold List.Nodup
    rw [List.pairwise_map]
    refine List.Pairwise.imp_of_mem (fun {a b} ha hb hab => ?_) h.1
    have := h.2 a ha; have := h.2 b hb; omega
  have := nodup_le h1 (Y := List.range n) (fun x hx => by
    obtain ⟨y, hy, rfl⟩ := List.mem_map.1 hx
    have := h.2 y hy
    exact List.mem_range.2 (by omega))
  simpa using this
theorem own_block_of {S : Nat → Prop} {W : World} {v : Value} {n x j : Nat} (h : WordIn S W v n x) (e : v.ownBlock = some j) (h0 : 0 < n) : S j := by
  obtain ⟨h1, h2, ⟨h3, -⟩ | ⟨h3, b, c, rfl, hc, hb, -⟩⟩ := h
  · omega
  · simp [Value.ownBlock] at e
    subst e
    exact hb

set_option maxRecDepth 100000 in
set_option maxHeartbeats 1000000 in
theorem rowOf_ (vf : Value) (n : Nat) (hn : n ≤ 60) (f : List Int) (w : World) (hf : Ints w vf f) (hl : f.length ≤ 60) :
    Calls Tryz.prog 49 #[.int .i64 (n : Int), vf] w fun e w' => Below w.heap.size w w' ∧ ((OkCo n f ∧ ∃ v, e = .returned (.tuple #[v, .bool true]) ∧ WordIn (fun b => w.heap.size ≤ b) w' v n (maskN f)) ∨ (¬ OkCo n f ∧ e = .returned (.tuple #[.slice none 0 0, .bool false]))) := by
  have hnr := newRow_ n hn w
  obtain ⟨a, c, rfl, -, hx⟩ := hf.open_
  have HX := Hid.mk' hx
  obtain ⟨m, hm⟩ : ∃ m, f.length = m := ⟨_, rfl⟩
  have HM := Hid.mk' hm
  rw [hm] at hl hx ⊢
  clear hm hf hx
  go_enter Tryz.func49, Tryz.ntmps49
  go_wp2_with (first | (go_at_call 51; refine hnr.mono ?_; rintro e w1 ⟨v, rfl, hv, hB⟩) | fail)
  have HV := Hid.mk' hv
  have HB := Hid.mk' hB
  obtain ⟨a6, m6, c6, rfl⟩ := hv.form
  clear hv hB hnr
  go_loopw [14, 7] (fun p q W => ∃ (k : Nat) (L : Int), k ≤ m ∧ p = .int .i64 (k : Int) ∧ q = .int .i64 L ∧ 0 ≤ L ∧ L ≤ (n : Int) ∧ Hid (OkCo n (f.take k) ∧ L = (if k = 0 then 0 else f[k - 1]?.getD 0 + 1) ∧ WordIn (fun b => w.heap.size ≤ b) W (.slice a6 m6 c6) n (maskN (f.take k)) ∧ Below w.heap.size w W)) (fun p _ _ => m - (intOf p).toNat)
  case atStart => exact ⟨0, 0, by omega, rfl, rfl, by omega, by omega, ⟨⟨by simp, by simp⟩, by simp, by simpa [maskN] using HV.out, HB.out⟩⟩
  case round =>
    obtain ⟨k, L, hk, rfl, rfl, hL0, hLn, HR⟩ := hrel
    clear HV HB
    by_cases hlt : k < m
    · have hkf : k < f.length := by rw [HM.out]; exact hlt
      obtain ⟨b, o, rfl, -, hbl, hcs⟩ := HX.out (by omega)
      have g1 := (HR.out.2.2.2.cell (p := ⟨b, o + k, none⟩) hbl).trans (hcs k (by omega))
      obtain ⟨x, hxk⟩ : ∃ x, f[k]?.getD 0 = x := ⟨_, rfl⟩
      have HK := Hid.mk' hxk
      rw [hxk] at g1
      clear hcs hbl hxk
      by_cases h1 : x < L
      · have HN : Hid (¬ OkCo n f) := fun h => by
          have h2 := (okCo_succ hkf).1 (okCo_take h (k + 1))
          rw [HK.out] at h2
          have h3 := HR.out.2.1
          split at h3
          · omega
          · have := h2.2.2.2 (by omega); omega
        go_wp2_with fail
        go_ret2
        exact ⟨HR.out.2.2.2, .inr ⟨HN.out, rfl⟩⟩
      · have h1b : decide (x < L) = false := decide_eq_false h1
        by_cases h2 : (n : Int) ≤ x
        · have HN : Hid (¬ OkCo n f) := fun h => by
            have h2 := (okCo_succ hkf).1 (okCo_take h (k + 1))
            rw [HK.out] at h2
            omega
          go_wp2_with fail
          go_ret2
          exact ⟨HR.out.2.2.2, .inr ⟨HN.out, rfl⟩⟩
        · have h2b : decide ((n : Int) ≤ x) = false := decide_eq_false h2
          obtain ⟨y, rfl⟩ : ∃ y : Nat, x = (y : Int) := ⟨x.toNat, by omega⟩
          have hyn : y < n := by omega
          have hfl := flip_ (.slice a6 m6 c6) n _ y wr HR.out.2.2.1 hyn
          have HO : Hid (OkCo n (f.take (k + 1))) := (okCo_succ hkf).2 ⟨HR.out.1, by rw [HK.out]; omega, by rw [HK.out]; omega, fun h0 => by
            have h3 := HR.out.2.1
            rw [if_neg (by omega)] at h3
            rw [HK.out]; omega⟩
          have HM2 : Hid (maskN (f.take (k + 1)) = maskN (f.take k) ^^^ 2 ^ y) := by
            show maskN (f.take (k + 1)) = maskN (f.take k) ^^^ 2 ^ y
            rw [maskN_take hkf, HK.out]; rfl
          obtain ⟨X, hX⟩ : ∃ X, maskN (f.take k) ^^^ 2 ^ y = X := ⟨_, rfl⟩
          rw [hX] at hfl HM2
          clear h1 h2 hX
          go_wp2_with (first | (go_at_call 61; refine hfl.mono ?_; rintro e V ⟨rfl, hV1, hV2, hV3⟩; have HB2 : Hid (Below w.heap.size w V) := HR.out.2.2.2.grown hV2 HR.out.2.2.2.size (fun j hj => own_block_of HR.out.2.2.1 hj (by omega)); have HW2 := Hid.mk' hV1; clear hV1 hV2 hV3) | fail)
          go_roundw
          case rel => exact ⟨k + 1, (y : Int) + 1, by omega, by go_num, by go_num, by omega, by omega, ⟨HO.out, by simp [HK.out], by rw [HM2.out]; exact HW2.out, HB2.out⟩⟩
          case measure => simp [intOf]; omega
    · have hkm : k = m := by omega
      subst hkm
      have HO : Hid (OkCo n f ∧ WordIn (fun b => w.heap.size ≤ b) wr (.slice a6 m6 c6) n (maskN f)) := by
        have h1 := HR.out.1
        have h2 := HR.out.2.2.1
        rw [← HM.out, List.take_length] at h1 h2
        exact ⟨h1, h2⟩
      go_wp2_with fail
      go_ret2
      exact ⟨HR.out.2.2.2, .inl ⟨HO.out.1, _, rfl, HO.out.2⟩⟩

end Go.Proofs.YtldknhganoiajaaGreatDoor
