/- What FacetsOf and Made answer, in memory of the call's own. -/
import Derived.Test.YtmndhclmhjmbpaaGreatDoorMade
namespace Go.Proofs.YtmndhclmhjmbpaaGreatDoor
open Go.RowKit Go.Sort

/-- Slice values in some blocks that read as lists of numbers, one by one. -/
def HeadsIn (S : Nat → Prop) (w : World) (us : List Value) (xss : List (List Int)) : Prop := us.length = xss.length ∧ ∀ (k : Nat) (u : Value) (x : List Int), us[k]? = some u → xss[k]? = some x → IntsIn S w u x
theorem HeadsIn.snoc {S : Nat → Prop} {w : World} {us : List Value} {xss : List (List Int)} {u : Value} {x : List Int} (h : HeadsIn S w us xss) (hu : IntsIn S w u x) : HeadsIn S w (us ++ [u]) (xss ++ [x]) := by
  refine ⟨by simp [h.1], fun k u' x' h1 h2 => ?_⟩
  rw [List.getElem?_append] at h1 h2
  rw [h.1] at h1
  by_cases hk : k < xss.length
  · rw [if_pos hk] at h1 h2
    exact h.2 k u' x' h1 h2
  · rw [if_neg hk] at h1 h2
    have h0 : k - xss.length = 0 := by
      rcases Nat.eq_zero_or_pos (k - xss.length) with h | h
      · exact h
      · rw [List.getElem?_eq_none (by simp; omega)] at h1; cases h1
    rw [h0] at h1 h2
    simp at h1 h2
    subst h1; subst h2
    exact hu
theorem HeadsIn.rows {S : Nat → Prop} {w w' : World} {us : List Value} {xss : List (List Int)} {base : Nat} {v : Value} {n : Nat} (h : HeadsIn S w us xss) (hB : Below w.heap.size w w') (ho : w'.ownsRow base 23 1 v n us) (hS : ∀ b, base ≤ b → S b) : RowsIn S w' v xss :=
  ⟨us, slice_of_owns ho (fun b h _ => hS b h), h.1, fun k u x h1 h2 => (h.2 k u x h1 h2).below hB⟩

set_option maxRecDepth 100000 in
set_option maxHeartbeats 2000000 in
theorem facets_in {base : Nat} (va : Value) (all : List (List Int)) (w : World) (hbase : base ≤ w.heap.size) (ha : RowsIn (fun bl => base ≤ bl) w va all) (hl : all.length ≤ 1000) (hx : ∀ x ∈ all, x.length ≤ 1000) :
    Calls Tryz.prog 69 #[va] w fun e w' => ∃ v, e = .returned v ∧ RowsIn (fun bl => base ≤ bl) w' v (facetsI all) ∧ Below w.heap.size w w' := by
  obtain ⟨i0, hi, hz0, hz1, hz2⟩ := info_parts Tryz.info23
  obtain ⟨a, ca, rfl, -, hc⟩ := ha.open_
  have HX : Hid (∀ x ∈ all, x.length ≤ 1000) := hx
  clear hx ha
  go_enter Tryz.func69, Tryz.ntmps69
  go_wp2
  go_loopw [3, 4] (fun v p wr => ∃ (k : Nat) (us : List Value), k ≤ all.length ∧ p = .int .i64 k ∧ wr.ownsRow w.heap.size 23 1 v us.length us ∧ HeadsIn (fun bl => base ≤ bl) w us (facetsTo all k) ∧ Below w.heap.size w wr)
    (fun _ p _ => all.length - (intOf p).toNat)
  case atStart => exact ⟨0, [], by omega, rfl, World.ownsRow_nil _ _ _ _, ⟨by simp [facetsTo], fun k u x h => by simp at h⟩, Below.refl _ _⟩
  case round =>
    obtain ⟨k, us, hk, rfl, hown, hh, hB⟩ := hrel
    have HH : Hid (HeadsIn (fun bl => base ≤ bl) w us (facetsTo all k)) := hh
    have HO : Hid (wr.ownsRow w.heap.size 23 1 u3 us.length us) := hown
    have hul : us.length ≤ 1000 := by have := hh.1; have := facetsTo_length all k; omega
    clear hh hown
    by_cases hlt : k < all.length
    · obtain ⟨b, o, rfl, -, hb, c⟩ := hc (by omega)
      obtain ⟨a1, p1, g1, i1⟩ := c k hlt
      have hlen : (all[k]?.getD []).length ≤ 1000 := HX.out _ (by rw [List.getElem?_eq_getElem hlt]; simp)
      obtain ⟨x, hxe⟩ : ∃ x, all[k]?.getD [] = x := ⟨_, rfl⟩
      rw [hxe] at g1 i1 hlen
      have HXE : Hid (all[k]?.getD [] = x) := hxe
      have g2 : wr.cell? ⟨b, o + k, none⟩ = some (.slice a1 x.length p1) := (hB.cell (p := ⟨b, o + k, none⟩) hb).trans g1
      have HI1 : Hid (IntsIn (fun bl => base ≤ bl) w (.slice a1 x.length p1) x) := i1
      obtain ⟨wo, hwo⟩ : ∃ W, W = wr := ⟨_, rfl⟩
      subst hwo
      clear hxe i1 g1 hc
      go_wp2
      go_loopw [5, 6] (fun q p W => ∃ j n : Nat, j ≤ all.length ∧ p = .int .i64 j ∧ q = .bool (innerTo all x j) ∧ W = wo.drewN n) (fun _ p _ => all.length - (intOf p).toNat)
      case atStart => exact ⟨0, 0, by omega, rfl, by simp [innerTo, innerB], rfl⟩
      case round =>
        obtain ⟨j, n, hj, rfl, rfl, hw⟩ := hrel
        have HW : Hid (wr = wo.drewN n) := hw
        have g3 : wr.cell? ⟨b, o + k, none⟩ = some (.slice a1 x.length p1) := by rw [hw]; exact g2
        obtain ⟨q0, hq0⟩ : ∃ q, innerTo all x j = q := ⟨_, rfl⟩
        rw [hq0]
        have HQ : Hid (innerTo all x j = q0) := hq0
        clear hq0
        by_cases hjl : j < all.length
        · cases q0 with
          | true =>
            have hin : innerB all x = true := innerB_more HQ.out
            have HF : Hid (facetsTo all (k + 1) = facetsTo all k) := by
              show facetsTo all (k + 1) = facetsTo all k
              rw [facetsTo_succ hlt, HXE.out, if_pos hin, List.append_nil]
            have HOw : Hid (wr.ownsRow w.heap.size 23 1 u3 us.length us) := by
              show wr.ownsRow w.heap.size 23 1 u3 us.length us
              rw [hw]; exact HO.out
            have hBw : Below w.heap.size w wr := by rw [hw]; exact hB.trans ⟨rfl, rfl, rfl, Nat.le_refl _, fun _ _ => rfl⟩
            clear hin hw c
            go_wp2
            go_roundw
            case rel => exact ⟨k + 1, us, by omega, by go_num, HOw.out, by rw [HF.out]; exact HH.out, hBw⟩
            case measure => simp [intOf]; omega
          | false =>
            obtain ⟨a4, p4, g4, i4⟩ := c j hjl
            have hlen4 : (all[j]?.getD []).length ≤ 1000 := HX.out _ (by rw [List.getElem?_eq_getElem hjl]; simp)
            obtain ⟨y, hye⟩ : ∃ x, all[j]?.getD [] = x := ⟨_, rfl⟩
            rw [hye] at g4 i4 hlen4
            have HY : Hid (all[j]?.getD [] = y) := hye
            have g5 : wr.cell? ⟨b, o + j, none⟩ = some (.slice a4 y.length p4) := by rw [hw]; exact (hB.cell (p := ⟨b, o + j, none⟩) hb).trans g4
            have hpo : ∀ m, Calls Tryz.prog 100 #[.slice a1 x.length p1, .slice a4 y.length p4] (wr.drewN m) _ := fun m => part_of _ _ x y (wr.drewN m) (by rw [hw]; exact (show Ints wo (.slice a1 x.length p1) x from (HI1.out.below hB).any)) (by rw [hw]; exact (show Ints wo (.slice a4 y.length p4) y from (i4.below hB).any)) (by omega) (by omega)
            have HST : Hid (innerTo all x (j + 1) = (innerTo all x j || (decide (x.length < y.length) && x.all (fun v => y.contains v)))) := by
              show innerTo all x (j + 1) = _
              rw [innerTo_succ hjl, hye]
            clear hye g4 i4 hw
            by_cases hgt : x.length < y.length
            · have hd : decide ((x.length : Int) < (y.length : Int)) = true := decide_eq_true (by omega)
              go_wp2_with fail
              go_quiet ((go_at_call 100; exact Calls.quiet_of (hpo _)))
              go_wp2
              go_roundw
              case rel => exact ⟨j + 1, n + nq, by omega, by go_num, by rw [HST.out, HQ.out, decide_eq_true hgt]; simp, by rw [HW.out, World.drewN_drewN]⟩
              case measure => simp [intOf]; omega
            · have hd : decide ((x.length : Int) < (y.length : Int)) = false := decide_eq_false (by omega)
              go_wp2_with fail
              go_quiet (fail)
              go_wp2
              go_roundw
              case rel => exact ⟨j + 1, n + nq, by omega, by go_num, by rw [HST.out, HQ.out, decide_eq_false hgt]; simp, by rw [HW.out, World.drewN_drewN]⟩
              case measure => simp [intOf]; omega
        · obtain rfl : j = all.length := by omega
          have hqe : innerB all x = q0 := by have := HQ.out; unfold innerTo at this; rw [List.take_length] at this; exact this
          have HQE : Hid (innerB all x = q0) := hqe
          clear hqe
          cases q0 with
          | true =>
            have hin : innerB all x = true := HQE.out
            have HF : Hid (facetsTo all (k + 1) = facetsTo all k) := by
              show facetsTo all (k + 1) = facetsTo all k
              rw [facetsTo_succ hlt, HXE.out, if_pos hin, List.append_nil]
            have HOw : Hid (wr.ownsRow w.heap.size 23 1 u3 us.length us) := by
              show wr.ownsRow w.heap.size 23 1 u3 us.length us
              rw [hw]; exact HO.out
            have hBw : Below w.heap.size w wr := by rw [hw]; exact hB.trans ⟨rfl, rfl, rfl, Nat.le_refl _, fun _ _ => rfl⟩
            clear hin hw c
            go_wp2
            go_roundw
            case rel => exact ⟨k + 1, us, by omega, by go_num, HOw.out, by rw [HF.out]; exact HH.out, hBw⟩
            case measure => simp [intOf]; omega
          | false =>
            have hin : ¬ innerB all x = true := by rw [HQE.out]; decide
            have HF : Hid (facetsTo all (k + 1) = facetsTo all k ++ [x]) := by
              show facetsTo all (k + 1) = facetsTo all k ++ [x]
              rw [facetsTo_succ hlt, HXE.out, if_neg hin]
            have ho : wr.ownsRow w.heap.size 23 1 u3 us.length us := by rw [hw]; exact HO.out
            have hBw : Below w.heap.size w wr := by rw [hw]; exact hB.trans ⟨rfl, rfl, rfl, Nat.le_refl _, fun _ _ => rfl⟩
            have hbs := hBw.size
            clear hin hw c
            go_wp2_with (first
              | (at_builtin; refine wpList_append_slice rfl (.tmp 47) (.tmp 52) 22 rfl w.heap.size 23 i0 (.slice none 0 0) 24 Tryz.underlying22 hi hz0 hz1 hz2 rfl _ _ _ rfl (ho.alloc _) _ [.slice a1 x.length p1] rfl (slice_one _ _ _) (by simp [Value.oneCell']) (by simp; omega) (by unfold maxLen; simp; omega) (by simp; omega) ?_; intro v3 w4 hown3 hg3 hl3)
              | go_in)
            (try go_frame)
            go_roundw
            case rel => exact ⟨k + 1, us ++ [.slice a1 x.length p1], by omega, by go_num, by simpa using hown3, by rw [HF.out]; exact HH.out.snoc HI1.out, (hBw.alloc hbs _).grown hg3 (by simp; omega) (fun j hj => (ho.lt j hj).1)⟩
            case measure => simp [intOf]; omega
    · obtain rfl : k = all.length := by omega
      have HF : Hid (facetsTo all all.length = facetsI all) := by
        show facetsTo all all.length = facetsI all
        unfold facetsTo facetsI
        rw [List.take_length]
      clear hc
      go_wp2
      go_ret
      have hh := HH.out
      rw [HF.out] at hh
      exact ⟨_, rfl, hh.rows hB HO.out (fun b h => Nat.le_trans hbase h), hB⟩


/-- What Made answers, in memory of its own. -/
def MadeIn (l : List (List Int)) (w : World) (e : Ending) (w' : World) : Prop :=
  Below w.heap.size w w' ∧
    ((¬ (∀ x ∈ l, SetOk x) ∧ e = .returned (.tuple #[.slice none 0 0, .int .i64 4])) ∨
     ((∀ x ∈ l, SetOk x) ∧ Over (l.map srt) ∧ e = .returned (.tuple #[.slice none 0 0, .int .i64 2])) ∨
     ((∀ x ∈ l, SetOk x) ∧ ¬ Over (l.map srt) ∧ ∃ v all, e = .returned (.tuple #[v, .int .i64 0]) ∧ RowsIn (fun bl => w.heap.size ≤ bl) w' v (facetsI all) ∧ IsAll (l.map srt) all ∧ all.length ≤ 600))

set_option maxRecDepth 100000 in
theorem made_in (CL : ClosedHolds) (vl : Value) (l : List (List Int)) (w : World) (hl : Rows w vl l) (hll : l.length ≤ 100000) (hle : ∀ x ∈ l, x.length ≤ 1000) :
    Calls Tryz.prog 39 #[vl] w fun e w' => MadeIn l w e w' := by
  have hcl := CL vl l w hl hll hle
  clear CL hl
  go_enter Tryz.func39, Tryz.ntmps39
  go_wp2_with fail
  refine hcl.mono ?_
  rintro e w2 ⟨hB, ⟨hno, rfl⟩ | ⟨hok, hov, rfl⟩ | ⟨hok, hov, v, all, rfl, hr0, hal, h6⟩⟩
  · clear hcl
    go_wp2
    go_ret2
    exact ⟨hB, .inl ⟨hno, rfl⟩⟩
  · clear hcl
    go_wp2
    go_ret2
    exact ⟨hB, .inr (.inl ⟨hok, hov, rfl⟩)⟩
  · have hsh := all_short hal hov
    have hfo := facets_in (base := w.heap.size) v all w2 hB.size hr0 (by omega) (fun x hx => by have := hsh x hx; omega)
    have H : Hid ((∀ x ∈ l, SetOk x) ∧ ¬ Over (l.map srt) ∧ IsAll (l.map srt) all) := ⟨hok, hov, hal⟩
    clear hcl hok hov hal hsh hr0
    go_wp2_with fail
    refine hfo.mono ?_
    rintro e w3 ⟨v3, rfl, h3, hB3⟩
    clear hfo
    go_wp2
    go_ret2
    exact ⟨hB.trans (hB3.mono hB.size), .inr (.inr ⟨H.out.1, H.out.2.1, v3, all, rfl, h3, H.out.2.2, h6⟩)⟩

end Go.Proofs.YtmndhclmhjmbpaaGreatDoor
