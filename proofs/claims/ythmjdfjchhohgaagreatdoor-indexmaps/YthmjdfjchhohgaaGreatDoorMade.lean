/- What the reference's FacetsOf answers: the faces that are parts of no greater one. What the reference's Made answers, where Closed answers as it should. What the statements' Few answers: true only of few sets of few numbers each; nothing is written. What the reference's Made, ComplexError and the statements' Little answer, where Closed answers as it should. -/
import Derived.Test.YthmjdfjchhohgaaGreatDoorPut
import Derived.Test.YthmjdfjchhohgaaGreatDoorMath2
import Derived.Maps.RangeWalk
import Derived.Test.YthmjdfjchhohgaaGreatDoorClosedDefs
import Derived.Test.YthmjdfjchhohgaaGreatDoorRefC
namespace Go.Proofs.YthmjdfjchhohgaaGreatDoor
open Go.RowKit Go.Sort

/-- Is the face a part of a greater one among the first k? -/
def innerTo (all : List (List Int)) (x : List Int) (k : Nat) : Bool := innerB (all.take k) x
theorem innerTo_succ {all : List (List Int)} {k : Nat} (hk : k < all.length) (x : List Int) : innerTo all x (k + 1) = (innerTo all x k || (decide (x.length < (all[k]?.getD []).length) && x.all (fun v => (all[k]?.getD []).contains v))) := by
  unfold innerTo innerB
  rw [List.take_add_one, List.getElem?_eq_getElem hk, List.any_append]
  simp
theorem innerB_more {all : List (List Int)} {x : List Int} {k : Nat} (h : innerTo all x k = true) : innerB all x = true := by
  unfold innerTo innerB at h
  unfold innerB
  rw [List.any_eq_true] at h ⊢
  obtain ⟨y, hy, e⟩ := h
  exact ⟨y, List.mem_of_mem_take hy, e⟩

/-- Slice values that read as lists of numbers, one by one. -/
def Heads (w : World) (us : List Value) (xss : List (List Int)) : Prop := us.length = xss.length ∧ ∀ (k : Nat) (u : Value) (x : List Int), us[k]? = some u → xss[k]? = some x → Ints w u x
theorem Heads.snoc {w : World} {us : List Value} {xss : List (List Int)} {u : Value} {x : List Int} (h : Heads w us xss) (hu : Ints w u x) : Heads w (us ++ [u]) (xss ++ [x]) := by
  refine ⟨by simp [h.1], fun k u' x' h1 h2 => ?_⟩
  rw [List.getElem?_append] at h1 h2
  rw [h.1] at h1
  by_cases hk : k < xss.length
  · rw [if_pos hk] at h1 h2
    exact h.2 k u' x' h1 h2
  · rw [if_neg hk] at h1 h2
    have h0 : k - xss.length = 0 := by
      rcases Nat.eq_zero_or_pos (k - xss.length) with h | h
      · exact h
      · rw [List.getElem?_eq_none (by simp; omega)] at h1; cases h1
    rw [h0] at h1 h2
    simp at h1 h2
    subst h1; subst h2
    exact hu
theorem Heads.rows {w w' : World} {us : List Value} {xss : List (List Int)} {base : Nat} {v : Value} {n : Nat} (h : Heads w us xss) (hB : Below w.heap.size w w') (ho : w'.ownsRow base 23 1 v n us) : Rows w' v xss :=
  ⟨us, slice_of_owns ho (fun _ _ _ => trivial), h.1, fun k u x h1 h2 => (h.2 k u x h1 h2).below hB⟩

def facetsTo (all : List (List Int)) (k : Nat) : List (List Int) := (all.take k).filter (fun x => !innerB all x)
theorem facetsTo_succ {all : List (List Int)} {k : Nat} (hk : k < all.length) : facetsTo all (k + 1) = facetsTo all k ++ (if innerB all (all[k]?.getD []) = true then [] else [all[k]?.getD []]) := by
  unfold facetsTo
  rw [List.take_add_one, List.getElem?_eq_getElem hk, List.filter_append, Option.getD_some]
  congr 1
  cases h : innerB all all[k] <;> simp [h]
theorem facetsTo_length (all : List (List Int)) (k : Nat) : (facetsTo all k).length ≤ k := by
  unfold facetsTo
  have := List.length_filter_le (fun x => !innerB all x) (all.take k)
  simp at this
  omega

set_option maxRecDepth 100000 in
set_option maxHeartbeats 2000000 in
theorem facets_of (va : Value) (all : List (List Int)) (w : World) (ha : Rows w va all) (hl : all.length ≤ 1000) (hx : ∀ x ∈ all, x.length ≤ 1000) :
    Calls Tryz.prog 69 #[va] w fun e w' => ∃ v, e = .returned v ∧ Rows w' v (facetsI all) ∧ Below w.heap.size w w' := by
  obtain ⟨i0, hi, hz0, hz1, hz2⟩ := info_parts Tryz.info23
  obtain ⟨a, ca, rfl, -, hc⟩ := ha.open_
  have HX : Hid (∀ x ∈ all, x.length ≤ 1000) := hx
  clear hx ha
  go_enter Tryz.func69, Tryz.ntmps69
  go_wp2
  go_loopw [3, 4] (fun v p wr => ∃ (k : Nat) (us : List Value), k ≤ all.length ∧ p = .int .i64 k ∧ wr.ownsRow w.heap.size 23 1 v us.length us ∧ Heads w us (facetsTo all k) ∧ Below w.heap.size w wr)
    (fun _ p _ => all.length - (intOf p).toNat)
  case atStart => exact ⟨0, [], by omega, rfl, World.ownsRow_nil _ _ _ _, ⟨by simp [facetsTo], fun k u x h => by simp at h⟩, Below.refl _ _⟩
  case round =>
    obtain ⟨k, us, hk, rfl, hown, hh, hB⟩ := hrel
    have HH : Hid (Heads w us (facetsTo all k)) := hh
    have HO : Hid (wr.ownsRow w.heap.size 23 1 u3 us.length us) := hown
    have hul : us.length ≤ 1000 := by have := hh.1; have := facetsTo_length all k; omega
    clear hh hown
    by_cases hlt : k < all.length
    · obtain ⟨b, o, rfl, -, hb, c⟩ := hc (by omega)
      obtain ⟨a1, p1, g1, i1⟩ := c k hlt
      have hlen : (all[k]?.getD []).length ≤ 1000 := HX.out _ (by rw [List.getElem?_eq_getElem hlt]; simp)
      obtain ⟨x, hxe⟩ : ∃ x, all[k]?.getD [] = x := ⟨_, rfl⟩
      rw [hxe] at g1 i1 hlen
      have HXE : Hid (all[k]?.getD [] = x) := hxe
      have g2 : wr.cell? ⟨b, o + k, none⟩ = some (.slice a1 x.length p1) := (hB.cell (p := ⟨b, o + k, none⟩) hb).trans g1
      have HI1 : Hid (Ints w (.slice a1 x.length p1) x) := i1
      obtain ⟨wo, hwo⟩ : ∃ W, W = wr := ⟨_, rfl⟩
      subst hwo
      clear hxe i1 g1 hc
      go_wp2
      go_loopw [5, 6] (fun q p W => ∃ j n : Nat, j ≤ all.length ∧ p = .int .i64 j ∧ q = .bool (innerTo all x j) ∧ W = wo.drewN n) (fun _ p _ => all.length - (intOf p).toNat)
      case atStart => exact ⟨0, 0, by omega, rfl, by simp [innerTo, innerB], rfl⟩
      case round =>
        obtain ⟨j, n, hj, rfl, rfl, hw⟩ := hrel
        have HW : Hid (wr = wo.drewN n) := hw
        have g3 : wr.cell? ⟨b, o + k, none⟩ = some (.slice a1 x.length p1) := by rw [hw]; exact g2
        obtain ⟨q0, hq0⟩ : ∃ q, innerTo all x j = q := ⟨_, rfl⟩
        rw [hq0]
        have HQ : Hid (innerTo all x j = q0) := hq0
        clear hq0
        by_cases hjl : j < all.length
        · cases q0 with
          | true =>
            have hin : innerB all x = true := innerB_more HQ.out
            have HF : Hid (facetsTo all (k + 1) = facetsTo all k) := by
              show facetsTo all (k + 1) = facetsTo all k
              rw [facetsTo_succ hlt, HXE.out, if_pos hin, List.append_nil]
            have HOw : Hid (wr.ownsRow w.heap.size 23 1 u3 us.length us) := by
              show wr.ownsRow w.heap.size 23 1 u3 us.length us
              rw [hw]; exact HO.out
            have hBw : Below w.heap.size w wr := by rw [hw]; exact hB.trans ⟨rfl, rfl, rfl, Nat.le_refl _, fun _ _ => rfl⟩
            clear hin hw c
            go_wp2
            go_roundw
            case rel => exact ⟨k + 1, us, by omega, by go_num, HOw.out, by rw [HF.out]; exact HH.out, hBw⟩
            case measure => simp [intOf]; omega
          | false =>
            obtain ⟨a4, p4, g4, i4⟩ := c j hjl
            have hlen4 : (all[j]?.getD []).length ≤ 1000 := HX.out _ (by rw [List.getElem?_eq_getElem hjl]; simp)
            obtain ⟨y, hye⟩ : ∃ x, all[j]?.getD [] = x := ⟨_, rfl⟩
            rw [hye] at g4 i4 hlen4
            have HY : Hid (all[j]?.getD [] = y) := hye
            have g5 : wr.cell? ⟨b, o + j, none⟩ = some (.slice a4 y.length p4) := by rw [hw]; exact (hB.cell (p := ⟨b, o + j, none⟩) hb).trans g4
            have hpo : ∀ m, Calls Tryz.prog 100 #[.slice a1 x.length p1, .slice a4 y.length p4] (wr.drewN m) _ := fun m => part_of _ _ x y (wr.drewN m) (by rw [hw]; exact (show Ints wo (.slice a1 x.length p1) x from HI1.out.below hB)) (by rw [hw]; exact (show Ints wo (.slice a4 y.length p4) y from i4.below hB)) (by omega) (by omega)
            have HST : Hid (innerTo all x (j + 1) = (innerTo all x j || (decide (x.length < y.length) && x.all (fun v => y.contains v)))) := by
              show innerTo all x (j + 1) = _
              rw [innerTo_succ hjl, hye]
            clear hye g4 i4 hw
            by_cases hgt : x.length < y.length
            · have hd : decide ((x.length : Int) < (y.length : Int)) = true := decide_eq_true (by omega)
              go_wp2_with fail
              go_quiet ((go_at_call 100; exact Calls.quiet_of (hpo _)))
              go_wp2
              go_roundw
              case rel => exact ⟨j + 1, n + nq, by omega, by go_num, by rw [HST.out, HQ.out, decide_eq_true hgt]; simp, by rw [HW.out, World.drewN_drewN]⟩
              case measure => simp [intOf]; omega
            · have hd : decide ((x.length : Int) < (y.length : Int)) = false := decide_eq_false (by omega)
              go_wp2_with fail
              go_quiet (fail)
              go_wp2
              go_roundw
              case rel => exact ⟨j + 1, n + nq, by omega, by go_num, by rw [HST.out, HQ.out, decide_eq_false hgt]; simp, by rw [HW.out, World.drewN_drewN]⟩
              case measure => simp [intOf]; omega
        · obtain rfl : j = all.length := by omega
          have hqe : innerB all x = q0 := by have := HQ.out; unfold innerTo at this; rw [List.take_length] at this; exact this
          have HQE : Hid (innerB all x = q0) := hqe
          clear hqe
          cases q0 with
          | true =>
            have hin : innerB all x = true := HQE.out
            have HF : Hid (facetsTo all (k + 1) = facetsTo all k) := by
              show facetsTo all (k + 1) = facetsTo all k
              rw [facetsTo_succ hlt, HXE.out, if_pos hin, List.append_nil]
            have HOw : Hid (wr.ownsRow w.heap.size 23 1 u3 us.length us) := by
              show wr.ownsRow w.heap.size 23 1 u3 us.length us
              rw [hw]; exact HO.out
            have hBw : Below w.heap.size w wr := by rw [hw]; exact hB.trans ⟨rfl, rfl, rfl, Nat.le_refl _, fun _ _ => rfl⟩
            clear hin hw c
            go_wp2
            go_roundw
            case rel => exact ⟨k + 1, us, by omega, by go_num, HOw.out, by rw [HF.out]; exact HH.out, hBw⟩
            case measure => simp [intOf]; omega
          | false =>
            have hin : ¬ innerB all x = true := by rw [HQE.out]; decide
            have HF : Hid (facetsTo all (k + 1) = facetsTo all k ++ [x]) := by
              show facetsTo all (k + 1) = facetsTo all k ++ [x]
              rw [facetsTo_succ hlt, HXE.out, if_neg hin]
            have ho : wr.ownsRow w.heap.size 23 1 u3 us.length us := by rw [hw]; exact HO.out
            have hBw : Below w.heap.size w wr := by rw [hw]; exact hB.trans ⟨rfl, rfl, rfl, Nat.le_refl _, fun _ _ => rfl⟩
            have hbs := hBw.size
            clear hin hw c
            go_wp2_with (first
              | (at_builtin; refine wpList_append_slice rfl (.tmp 47) (.tmp 52) 22 rfl w.heap.size 23 i0 (.slice none 0 0) 24 Tryz.underlying22 hi hz0 hz1 hz2 rfl _ _ _ rfl (ho.alloc _) _ [.slice a1 x.length p1] rfl (slice_one _ _ _) (by simp [Value.oneCell']) (by simp; omega) (by unfold maxLen; simp; omega) (by simp; omega) ?_; intro v3 w4 hown3 hg3 hl3)
              | go_in)
            (try go_frame)
            go_roundw
            case rel => exact ⟨k + 1, us ++ [.slice a1 x.length p1], by omega, by go_num, by simpa using hown3, by rw [HF.out]; exact HH.out.snoc HI1.out, (hBw.alloc hbs _).grown hg3 (by simp; omega) (fun j hj => (ho.lt j hj).1)⟩
            case measure => simp [intOf]; omega
    · obtain rfl : k = all.length := by omega
      have HF : Hid (facetsTo all all.length = facetsI all) := by
        show facetsTo all all.length = facetsI all
        unfold facetsTo facetsI
        rw [List.take_length]
      clear hc
      go_wp2
      go_ret
      have hh := HH.out
      rw [HF.out] at hh
      exact ⟨_, rfl, hh.rows hB HO.out, hB⟩

end Go.Proofs.YthmjdfjchhohgaaGreatDoor

namespace Go.Proofs.YthmjdfjchhohgaaGreatDoor
open Go.RowKit Go.Sort

/-- What Made answers. -/
def MadeSays (l : List (List Int)) (w : World) (e : Ending) (w' : World) : Prop :=
  Below w.heap.size w w' ∧
    ((¬ (∀ x ∈ l, SetOk x) ∧ e = .returned (.tuple #[.slice none 0 0, .int .i64 4])) ∨
     ((∀ x ∈ l, SetOk x) ∧ Over (l.map srt) ∧ e = .returned (.tuple #[.slice none 0 0, .int .i64 2])) ∨
     ((∀ x ∈ l, SetOk x) ∧ ¬ Over (l.map srt) ∧ ∃ v all, e = .returned (.tuple #[v, .int .i64 0]) ∧ Rows w' v (facetsI all) ∧ IsAll (l.map srt) all ∧ all.length ≤ 600))

theorem all_short {ts all : List (List Int)} (h : IsAll ts all) (hn : ¬ Over ts) : ∀ x ∈ all, x.length ≤ 7 := fun x hx => by
  obtain ⟨_, t, ht, hs⟩ := (h.mem x).1 hx
  have := hs.length_le
  rcases Nat.lt_or_ge 7 t.length with h7 | h7
  · exact absurd (.inl ⟨t, ht, h7⟩) hn
  · omega

set_option maxRecDepth 100000 in
theorem made_ (CL : ClosedHolds) (vl : Value) (l : List (List Int)) (w : World) (hl : Rows w vl l) (hll : l.length ≤ 100000) (hle : ∀ x ∈ l, x.length ≤ 1000) :
    Calls Tryz.prog 39 #[vl] w fun e w' => MadeSays l w e w' := by
  have hcl := CL vl l w hl hll hle
  clear CL hl
  go_enter Tryz.func39, Tryz.ntmps39
  go_wp2_with fail
  refine hcl.mono ?_
  rintro e w2 ⟨hB, ⟨hno, rfl⟩ | ⟨hok, hov, rfl⟩ | ⟨hok, hov, v, all, rfl, hr0, hal, h6⟩⟩
  · clear hcl
    go_wp2
    go_ret2
    exact ⟨hB, .inl ⟨hno, rfl⟩⟩
  · clear hcl
    go_wp2
    go_ret2
    exact ⟨hB, .inr (.inl ⟨hok, hov, rfl⟩)⟩
  · have hr := hr0.any
    have hsh := all_short hal hov
    have hfo := facets_of v all w2 hr (by omega) (fun x hx => by have := hsh x hx; omega)
    have H : Hid ((∀ x ∈ l, SetOk x) ∧ ¬ Over (l.map srt) ∧ IsAll (l.map srt) all) := ⟨hok, hov, hal⟩
    clear hcl hok hov hal hsh hr
    go_wp2_with fail
    refine hfo.mono ?_
    rintro e w3 ⟨v3, rfl, h3, hB3⟩
    clear hfo
    go_wp2
    go_ret2
    exact ⟨hB.trans (hB3.mono hB.size), .inr (.inr ⟨H.out.1, H.out.2.1, v3, all, rfl, h3, H.out.2.2, h6⟩)⟩

end Go.Proofs.YthmjdfjchhohgaaGreatDoor

namespace Go.Proofs.YthmjdfjchhohgaaGreatDoor
open Go.RowKit Go.Sort

theorem take_all {l : List (List Int)} {k m : Nat} (hk : k < l.length) (h : ∀ x ∈ l.take k, x.length ≤ m) (hx : (l[k]?.getD []).length ≤ m) : ∀ x ∈ l.take (k + 1), x.length ≤ m := by
  rw [List.getElem?_eq_getElem hk, Option.getD_some] at hx
  rw [List.take_add_one, List.getElem?_eq_getElem hk]
  intro x hm
  rcases List.mem_append.1 hm with a | a
  · exact h x a
  · simp at a; subst a; exact hx

set_option maxRecDepth 100000 in
theorem few_ (vl : Value) (l : List (List Int)) (w : World) (hl : Rows w vl l) :
    Calls Tryz.prog 26 #[vl] w fun e w' => ∃ q : Bool, e = .returned (.bool q) ∧ w' = w ∧ (q = true → l.length ≤ 40 ∧ ∀ x ∈ l, x.length ≤ 12) := by
  obtain ⟨a, ca, rfl, -, ha⟩ := hl.open_
  by_cases h40 : 40 < l.length
  · clear ha
    go_enter Tryz.func26, Tryz.ntmps26
    go_wp2
    go_ret
    exact ⟨false, rfl, rfl, fun h => by cases h⟩
  · go_enter Tryz.func26, Tryz.ntmps26
    go_wp2
    go_loopw [3, 4] (fun v p W => ∃ k n : Nat, k ≤ l.length ∧ p = .int .i64 k ∧ v = .int .i64 n ∧ n ≤ 12 * k ∧ W = w ∧ ∀ x ∈ l.take k, x.length ≤ 12) (fun _ p _ => l.length - (intOf p).toNat)
    case atStart => exact ⟨0, 0, by omega, rfl, rfl, by omega, rfl, by simp⟩
    case round =>
      obtain ⟨k, n, hk, rfl, rfl, hn, rfl, hall⟩ := hrel
      have HA : Hid (∀ x ∈ l.take k, x.length ≤ 12) := hall
      clear hall
      by_cases hlt : k < l.length
      · obtain ⟨b, o, rfl, -, -, c⟩ := ha (by omega)
        obtain ⟨a1, p1, g1, i1⟩ := c k hlt
        obtain ⟨x, hxe⟩ : ∃ x, l[k]?.getD [] = x := ⟨_, rfl⟩
        rw [hxe] at g1
        have HX : Hid (l[k]?.getD [] = x) := hxe
        clear c i1 hxe ha
        by_cases h12 : 12 < x.length
        · go_wp2
          go_ret
          exact ⟨false, rfl, rfl, fun h => by cases h⟩
        · go_wp2
          go_roundw
          case rel => exact ⟨k + 1, n + x.length, by omega, by go_num, by go_num, by omega, (by first | trivial | rfl), take_all hlt HA.out (by rw [HX.out]; omega)⟩
          case measure => simp [intOf]; omega
      · obtain rfl : k = l.length := by omega
        have hall := HA.out
        rw [List.take_length] at hall
        have HF : Hid (∀ x ∈ l, x.length ≤ 12) := hall
        clear ha hall
        go_wp2
        go_ret
        exact ⟨_, rfl, rfl, fun _ => ⟨by omega, HF.out⟩⟩

end Go.Proofs.YthmjdfjchhohgaaGreatDoor

namespace Go.Proofs.YthmjdfjchhohgaaGreatDoor
open Go.RowKit Go.Sort

/-- What ComplexError answers. -/
def ErrorSays (l : List (List Int)) (w : World) (e : Ending) (w' : World) : Prop :=
  Below w.heap.size w w' ∧
    ((¬ (∀ x ∈ l, SetOk x) ∧ e = .returned (.int .i64 4)) ∨ ((∀ x ∈ l, SetOk x) ∧ Over (l.map srt) ∧ e = .returned (.int .i64 2)) ∨
     ((∀ x ∈ l, SetOk x) ∧ ¬ Over (l.map srt) ∧ ∃ all, IsAll (l.map srt) all ∧ ((¬ l = facetsI all ∧ e = .returned (.int .i64 3)) ∨ (l = facetsI all ∧ e = .returned (.int .i64 0)))))

set_option maxRecDepth 100000 in
theorem complex_error (CL : ClosedHolds) (vl : Value) (l : List (List Int)) (w : World) (hl : Rows w vl l) (hll : l.length ≤ 100000) (hle : ∀ x ∈ l, x.length ≤ 1000) :
    Calls Tryz.prog 15 #[vl] w fun e w' => ErrorSays l w e w' := by
  have hma := made_ CL vl l w hl hll hle
  have HR : Hid (Rows w vl l) := hl
  clear CL hl
  go_enter Tryz.func15, Tryz.ntmps15
  go_wp2_with fail
  refine hma.mono ?_
  rintro e w2 ⟨hB, ⟨hno, rfl⟩ | ⟨hok, hov, rfl⟩ | ⟨hok, hov, v, all, rfl, hr0, hal, h6⟩⟩
  · clear hma
    go_wp2
    go_ret
    exact ⟨hB, .inl ⟨hno, rfl⟩⟩
  · clear hma
    go_wp2
    go_ret
    exact ⟨hB, .inr (.inl ⟨hok, hov, rfl⟩)⟩
  · have hr := hr0.any
    have hsl := same_lists vl v l (facetsI all) w2 (HR.out.below hB) hr (by omega) (fun x hx => by have := hle x hx; omega)
    have H : Hid ((∀ x ∈ l, SetOk x) ∧ ¬ Over (l.map srt) ∧ IsAll (l.map srt) all) := ⟨hok, hov, hal⟩
    clear hma hok hov hal hr
    by_cases hq : l = facetsI all
    · rw [decide_eq_true hq] at hsl
      have HQ : Hid (l = facetsI all) := hq
      clear hq
      go_wp2_with (go_at_call 22; refine hsl.mono ?_; rintro e w3 ⟨rfl, q, rfl⟩)
      go_ret
      exact ⟨hB.trans ⟨rfl, rfl, rfl, Nat.le_refl _, fun _ _ => rfl⟩, .inr (.inr ⟨H.out.1, H.out.2.1, all, H.out.2.2, .inr ⟨HQ.out, rfl⟩⟩)⟩
    · rw [decide_eq_false hq] at hsl
      have HQ : Hid (¬ l = facetsI all) := hq
      clear hq
      go_wp2_with (go_at_call 22; refine hsl.mono ?_; rintro e w3 ⟨rfl, q, rfl⟩)
      go_ret
      exact ⟨hB.trans ⟨rfl, rfl, rfl, Nat.le_refl _, fun _ _ => rfl⟩, .inr (.inr ⟨H.out.1, H.out.2.1, all, H.out.2.2, .inl ⟨HQ.out, rfl⟩⟩)⟩

set_option maxRecDepth 100000 in
theorem little_ (CL : ClosedHolds) (vl : Value) (l : List (List Int)) (m : Int) (w : World) (hl : Rows w vl l) :
    Calls Tryz.prog 6 #[vl, .int .i64 m] w fun e w' => ∃ q : Bool, e = .returned (.bool q) ∧ Below w.heap.size w w' ∧ (q = true → l.length ≤ 40 ∧ ∀ x ∈ l, x.length ≤ 12) := by
  have hfw := few_ vl l w hl
  have HR : Hid (Rows w vl l) := hl
  have HC : Hid ClosedHolds := CL
  clear CL hl
  go_enter Tryz.func6, Tryz.ntmps6
  go_wp2_with fail
  refine hfw.mono ?_
  rintro e w2 ⟨q, rfl, rfl, hq⟩
  cases q with
  | false =>
    clear hfw hq
    go_wp2
    go_ret
    exact ⟨false, rfl, Below.refl _ _, fun h => by cases h⟩
  | true =>
    have hb := hq rfl
    have hcl := HC.out vl l w2 HR.out (by omega) (fun x hx => by have := hb.2 x hx; omega)
    have HB : Hid (l.length ≤ 40 ∧ ∀ x ∈ l, x.length ≤ 12) := hb
    clear hfw hq hb
    go_wp2_with fail
    refine hcl.mono ?_
    rintro e w3 ⟨hB, ⟨hno, rfl⟩ | ⟨hok, hov, rfl⟩ | ⟨hok, hov, v, all, rfl, hr0, hal, h6⟩⟩
    · clear hcl
      go_wp2
      go_ret
      exact ⟨_, rfl, hB, fun _ => HB.out⟩
    · clear hcl
      go_wp2
      go_ret
      exact ⟨_, rfl, hB, fun _ => HB.out⟩
    · have hr := hr0.any
      obtain ⟨ar, cr, rfl, -, -⟩ := hr.open_
      clear hcl hr hal hok hov
      go_wp2
      go_ret
      exact ⟨_, rfl, hB, fun _ => HB.out⟩

end Go.Proofs.YthmjdfjchhohgaaGreatDoor
