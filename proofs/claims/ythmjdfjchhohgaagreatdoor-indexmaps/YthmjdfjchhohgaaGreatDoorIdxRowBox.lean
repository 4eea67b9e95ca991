/- What FacetsOf and Made answer, in memory of the call's own. A mapping: its faces and the image of each vertex. Values in a block of their own. Small numbers are not wrapped. A row of cells in a box: a shape, a mapping; what is stored over itself changes nothing. -/
import Derived.Test.YthmjdfjchhohgaaGreatDoorMade
import Derived.Test.YthmjdfjchhohgaaGreatDoorIdxNums
import Derived.Test.YthmjdfjchhohgaaGreatDoorBase
namespace Go.Proofs.YthmjdfjchhohgaaGreatDoor
open Go.RowKit Go.Sort

/-- Slice values in some blocks that read as lists of numbers, one by one. -/
def HeadsIn (S : Nat → Prop) (w : World) (us : List Value) (xss : List (List Int)) : Prop := us.length = xss.length ∧ ∀ (k : Nat) (u : Value) (x : List Int), us[k]? = some u → xss[k]? = some x → IntsIn S w u x
theorem HeadsIn.snoc {S : Nat → Prop} {w : World} {us : List Value} {xss : List (List Int)} {u : Value} {x : List Int} (h : HeadsIn S w us xss) (hu : IntsIn S w u x) : HeadsIn S w (us ++ [u]) (xss ++ [x]) := by
  refine ⟨by simp [h.1], fun k u' x' h1 h2 => ?_⟩
  rw [List.getElem?_append] at h1 h2
  rw [h.1] at h1
  by_cases hk : k < xss.length
  · rw [if_pos hk] at h1 h2
    exact h.2 k u' x' h1 h2
  · rw [if_neg hk] at h1 h2
    have h0 : k - xss.length = 0 := by
      rcases Nat.eq_zero_or_pos (k - xss.length) with h | h
      · exact h
      · rw [List.getElem?_eq_none (by simp; omega)] at h1; cases h1
    rw [h0] at h1 h2
    simp at h1 h2
    subst h1; subst h2
    exact hu
theorem HeadsIn.rows {S : Nat → Prop} {w w' : World} {us : List Value} {xss : List (List Int)} {base : Nat} {v : Value} {n : Nat} (h : HeadsIn S w us xss) (hB : Below w.heap.size w w') (ho : w'.ownsRow base 23 1 v n us) (hS : ∀ b, base ≤ b → S b) : RowsIn S w' v xss :=
  ⟨us, slice_of_owns ho (fun b h _ => hS b h), h.1, fun k u x h1 h2 => (h.2 k u x h1 h2).below hB⟩

set_option maxRecDepth 100000 in
set_option maxHeartbeats 2000000 in
theorem facets_in {base : Nat} (va : Value) (all : List (List Int)) (w : World) (hbase : base ≤ w.heap.size) (ha : RowsIn (fun bl => base ≤ bl) w va all) (hl : all.length ≤ 1000) (hx : ∀ x ∈ all, x.length ≤ 1000) :
    Calls Tryz.prog 69 #[va] w fun e w' => ∃ v, e = .returned v ∧ RowsIn (fun bl => base ≤ bl) w' v (facetsI all) ∧ Below w.heap.size w w' := by
  obtain ⟨i0, hi, hz0, hz1, hz2⟩ := info_parts Tryz.info23
  obtain ⟨a, ca, rfl, -, hc⟩ := ha.open_
  have HX : Hid (∀ x ∈ all, x.length ≤ 1000) := hx
  clear hx ha
  go_enter Tryz.func69, Tryz.ntmps69
  go_wp2
  go_loopw [3, 4] (fun v p wr => ∃ (k : Nat) (us : List Value), k ≤ all.length ∧ p = .int .i64 k ∧ wr.ownsRow w.heap.size 23 1 v us.length us ∧ HeadsIn (fun bl => base ≤ bl) w us (facetsTo all k) ∧ Below w.heap.size w wr)
    (fun _ p _ => all.length - (intOf p).toNat)
  case atStart => exact ⟨0, [], by omega, rfl, World.ownsRow_nil _ _ _ _, ⟨by simp [facetsTo], fun k u x h => by simp at h⟩, Below.refl _ _⟩
  case round =>
    obtain ⟨k, us, hk, rfl, hown, hh, hB⟩ := hrel
    have HH : Hid (HeadsIn (fun bl => base ≤ bl) w us (facetsTo all k)) := hh
    have HO : Hid (wr.ownsRow w.heap.size 23 1 u3 us.length us) := hown
    have hul : us.length ≤ 1000 := by have := hh.1; have := facetsTo_length all k; omega
    clear hh hown
    by_cases hlt : k < all.length
    · obtain ⟨b, o, rfl, -, hb, c⟩ := hc (by omega)
      obtain ⟨a1, p1, g1, i1⟩ := c k hlt
      have hlen : (all[k]?.getD []).length ≤ 1000 := HX.out _ (by rw [List.getElem?_eq_getElem hlt]; simp)
      obtain ⟨x, hxe⟩ : ∃ x, all[k]?.getD [] = x := ⟨_, rfl⟩
      rw [hxe] at g1 i1 hlen
      have HXE : Hid (all[k]?.getD [] = x) := hxe
      have g2 : wr.cell? ⟨b, o + k, none⟩ = some (.slice a1 x.length p1) := (hB.cell (p := ⟨b, o + k, none⟩) hb).trans g1
      have HI1 : Hid (IntsIn (fun bl => base ≤ bl) w (.slice a1 x.length p1) x) := i1
      obtain ⟨wo, hwo⟩ : ∃ W, W = wr := ⟨_, rfl⟩
      subst hwo
      clear hxe i1 g1 hc
      go_wp2
      go_loopw [5, 6] (fun q p W => ∃ j n : Nat, j ≤ all.length ∧ p = .int .i64 j ∧ q = .bool (innerTo all x j) ∧ W = wo.drewN n) (fun _ p _ => all.length - (intOf p).toNat)
      case atStart => exact ⟨0, 0, by omega, rfl, by simp [innerTo, innerB], rfl⟩
      case round =>
        obtain ⟨j, n, hj, rfl, rfl, hw⟩ := hrel
        have HW : Hid (wr = wo.drewN n) := hw
        have g3 : wr.cell? ⟨b, o + k, none⟩ = some (.slice a1 x.length p1) := by rw [hw]; exact g2
        obtain ⟨q0, hq0⟩ : ∃ q, innerTo all x j = q := ⟨_, rfl⟩
        rw [hq0]
        have HQ : Hid (innerTo all x j = q0) := hq0
        clear hq0
        by_cases hjl : j < all.length
        · cases q0 with
          | true =>
            have hin : innerB all x = true := innerB_more HQ.out
            have HF : Hid (facetsTo all (k + 1) = facetsTo all k) := by
              show facetsTo all (k + 1) = facetsTo all k
              rw [facetsTo_succ hlt, HXE.out, if_pos hin, List.append_nil]
            have HOw : Hid (wr.ownsRow w.heap.size 23 1 u3 us.length us) := by
              show wr.ownsRow w.heap.size 23 1 u3 us.length us
              rw [hw]; exact HO.out
            have hBw : Below w.heap.size w wr := by rw [hw]; exact hB.trans ⟨rfl, rfl, rfl, Nat.le_refl _, fun _ _ => rfl⟩
            clear hin hw c
            go_wp2
            go_roundw
            case rel => exact ⟨k + 1, us, by omega, by go_num, HOw.out, by rw [HF.out]; exact HH.out, hBw⟩
            case measure => simp [intOf]; omega
          | false =>
            obtain ⟨a4, p4, g4, i4⟩ := c j hjl
            have hlen4 : (all[j]?.getD []).length ≤ 1000 := HX.out _ (by rw [List.getElem?_eq_getElem hjl]; simp)
            obtain ⟨y, hye⟩ : ∃ x, all[j]?.getD [] = x := ⟨_, rfl⟩
            rw [hye] at g4 i4 hlen4
            have HY : Hid (all[j]?.getD [] = y) := hye
            have g5 : wr.cell? ⟨b, o + j, none⟩ = some (.slice a4 y.length p4) := by rw [hw]; exact (hB.cell (p := ⟨b, o + j, none⟩) hb).trans g4
            have hpo : ∀ m, Calls Tryz.prog 100 #[.slice a1 x.length p1, .slice a4 y.length p4] (wr.drewN m) _ := fun m => part_of _ _ x y (wr.drewN m) (by rw [hw]; exact (show Ints wo (.slice a1 x.length p1) x from (HI1.out.below hB).any)) (by rw [hw]; exact (show Ints wo (.slice a4 y.length p4) y from (i4.below hB).any)) (by omega) (by omega)
            have HST : Hid (innerTo all x (j + 1) = (innerTo all x j || (decide (x.length < y.length) && x.all (fun v => y.contains v)))) := by
              show innerTo all x (j + 1) = _
              rw [innerTo_succ hjl, hye]
            clear hye g4 i4 hw
            by_cases hgt : x.length < y.length
            · have hd : decide ((x.length : Int) < (y.length : Int)) = true := decide_eq_true (by omega)
              go_wp2_with fail
              go_quiet ((go_at_call 100; exact Calls.quiet_of (hpo _)))
              go_wp2
              go_roundw
              case rel => exact ⟨j + 1, n + nq, by omega, by go_num, by rw [HST.out, HQ.out, decide_eq_true hgt]; simp, by rw [HW.out, World.drewN_drewN]⟩
              case measure => simp [intOf]; omega
            · have hd : decide ((x.length : Int) < (y.length : Int)) = false := decide_eq_false (by omega)
              go_wp2_with fail
              go_quiet (fail)
              go_wp2
              go_roundw
              case rel => exact ⟨j + 1, n + nq, by omega, by go_num, by rw [HST.out, HQ.out, decide_eq_false hgt]; simp, by rw [HW.out, World.drewN_drewN]⟩
              case measure => simp [intOf]; omega
        · obtain rfl : j = all.length := by omega
          have hqe : innerB all x = q0 := by have := HQ.out; unfold innerTo at this; rw [List.take_length] at this; exact this
          have HQE : Hid (innerB all x = q0) := hqe
          clear hqe
          cases q0 with
          | true =>
            have hin : innerB all x = true := HQE.out
            have HF : Hid (facetsTo all (k + 1) = facetsTo all k) := by
              show facetsTo all (k + 1) = facetsTo all k
              rw [facetsTo_succ hlt, HXE.out, if_pos hin, List.append_nil]
            have HOw : Hid (wr.ownsRow w.heap.size 23 1 u3 us.length us) := by
              show wr.ownsRow w.heap.size 23 1 u3 us.length us
              rw [hw]; exact HO.out
            have hBw : Below w.heap.size w wr := by rw [hw]; exact hB.trans ⟨rfl, rfl, rfl, Nat.le_refl _, fun _ _ => rfl⟩
            clear hin hw c
            go_wp2
            go_roundw
            case rel => exact ⟨k + 1, us, by omega, by go_num, HOw.out, by rw [HF.out]; exact HH.out, hBw⟩
            case measure => simp [intOf]; omega
          | false =>
            have hin : ¬ innerB all x = true := by rw [HQE.out]; decide
            have HF : Hid (facetsTo all (k + 1) = facetsTo all k ++ [x]) := by
              show facetsTo all (k + 1) = facetsTo all k ++ [x]
              rw [facetsTo_succ hlt, HXE.out, if_neg hin]
            have ho : wr.ownsRow w.heap.size 23 1 u3 us.length us := by rw [hw]; exact HO.out
            have hBw : Below w.heap.size w wr := by rw [hw]; exact hB.trans ⟨rfl, rfl, rfl, Nat.le_refl _, fun _ _ => rfl⟩
            have hbs := hBw.size
            clear hin hw c
            go_wp2_with (first
              | (at_builtin; refine wpList_append_slice rfl (.tmp 47) (.tmp 52) 22 rfl w.heap.size 23 i0 (.slice none 0 0) 24 Tryz.underlying22 hi hz0 hz1 hz2 rfl _ _ _ rfl (ho.alloc _) _ [.slice a1 x.length p1] rfl (slice_one _ _ _) (by simp [Value.oneCell']) (by simp; omega) (by unfold maxLen; simp; omega) (by simp; omega) ?_; intro v3 w4 hown3 hg3 hl3)
              | go_in)
            (try go_frame)
            go_roundw
            case rel => exact ⟨k + 1, us ++ [.slice a1 x.length p1], by omega, by go_num, by simpa using hown3, by rw [HF.out]; exact HH.out.snoc HI1.out, (hBw.alloc hbs _).grown hg3 (by simp; omega) (fun j hj => (ho.lt j hj).1)⟩
            case measure => simp [intOf]; omega
    · obtain rfl : k = all.length := by omega
      have HF : Hid (facetsTo all all.length = facetsI all) := by
        show facetsTo all all.length = facetsI all
        unfold facetsTo facetsI
        rw [List.take_length]
      clear hc
      go_wp2
      go_ret
      have hh := HH.out
      rw [HF.out] at hh
      exact ⟨_, rfl, hh.rows hB HO.out (fun b h => Nat.le_trans hbase h), hB⟩


/-- What Made answers, in memory of its own. -/
def MadeIn (l : List (List Int)) (w : World) (e : Ending) (w' : World) : Prop :=
  Below w.heap.size w w' ∧
    ((¬ (∀ x ∈ l, SetOk x) ∧ e = .returned (.tuple #[.slice none 0 0, .int .i64 4])) ∨
     ((∀ x ∈ l, SetOk x) ∧ Over (l.map srt) ∧ e = .returned (.tuple #[.slice none 0 0, .int .i64 2])) ∨
     ((∀ x ∈ l, SetOk x) ∧ ¬ Over (l.map srt) ∧ ∃ v all, e = .returned (.tuple #[v, .int .i64 0]) ∧ RowsIn (fun bl => w.heap.size ≤ bl) w' v (facetsI all) ∧ IsAll (l.map srt) all ∧ all.length ≤ 600))

set_option maxRecDepth 100000 in
theorem made_in (CL : ClosedHolds) (vl : Value) (l : List (List Int)) (w : World) (hl : Rows w vl l) (hll : l.length ≤ 100000) (hle : ∀ x ∈ l, x.length ≤ 1000) :
    Calls Tryz.prog 39 #[vl] w fun e w' => MadeIn l w e w' := by
  have hcl := CL vl l w hl hll hle
  clear CL hl
  go_enter Tryz.func39, Tryz.ntmps39
  go_wp2_with fail
  refine hcl.mono ?_
  rintro e w2 ⟨hB, ⟨hno, rfl⟩ | ⟨hok, hov, rfl⟩ | ⟨hok, hov, v, all, rfl, hr0, hal, h6⟩⟩
  · clear hcl
    go_wp2
    go_ret2
    exact ⟨hB, .inl ⟨hno, rfl⟩⟩
  · clear hcl
    go_wp2
    go_ret2
    exact ⟨hB, .inr (.inl ⟨hok, hov, rfl⟩)⟩
  · have hsh := all_short hal hov
    have hfo := facets_in (base := w.heap.size) v all w2 hB.size hr0 (by omega) (fun x hx => by have := hsh x hx; omega)
    have H : Hid ((∀ x ∈ l, SetOk x) ∧ ¬ Over (l.map srt) ∧ IsAll (l.map srt) all) := ⟨hok, hov, hal⟩
    clear hcl hok hov hal hsh hr0
    go_wp2_with fail
    refine hfo.mono ?_
    rintro e w3 ⟨v3, rfl, h3, hB3⟩
    clear hfo
    go_wp2
    go_ret2
    exact ⟨hB.trans (hB3.mono hB.size), .inr (.inr ⟨H.out.1, H.out.2.1, v3, all, rfl, h3, H.out.2.2, h6⟩)⟩

end Go.Proofs.YthmjdfjchhohgaaGreatDoor

namespace Go.Proofs.YthmjdfjchhohgaaGreatDoor
open Go.RowKit Go.Sort

def mapC (v : Value) (F : Nat → Int) : List Value := v :: numC F
def MapgAt (b : Nat) (W : World) (v : Value) (F : Nat → Int) : Prop := W.heap[b]? = some (.cells (mapC v F).toArray 83 (0, 0))
theorem MapgAt.lt {b : Nat} {W : World} {v : Value} {F : Nat → Int} (h : MapgAt b W v F) : b < W.heap.size := (Array.getElem?_eq_some_iff.1 h).1
theorem MapgAt.below {b : Nat} {W W' : World} {v : Value} {F : Nat → Int} (h : MapgAt b W v F) (hB : Below W.heap.size W W') : MapgAt b W' v F := (hB.block b h.lt).trans h
theorem MapgAt.image {b : Nat} {W : World} {v : Value} {F : Nat → Int} (h : MapgAt b W v F) {k : Nat} (hk : k < 100) : W.cell? ⟨b, 1 + k, none⟩ = some (.int .i64 (F k)) := by
  have h1 : (mapC v F)[1 + k]? = some (.int .i64 (F k)) := by
    unfold mapC
    rw [Nat.add_comm, List.getElem?_cons_succ]
    exact numC_at F hk
  unfold MapgAt at h
  simp [World.cell?, h, h1]
theorem MapgAt.load {b : Nat} {W : World} {v : Value} {F : Nat → Int} (h : MapgAt b W v F) : (loadVar 83 ⟨b, 0, none⟩).run Tryz.prog W = .ok (.agg (mapC v F).toArray) W := by
  have := run_loadVar_mid (P := Tryz.prog) W b 0 83 (mapC v F) _ (fun j u hu => by
    unfold MapgAt at h
    simp [World.cell?, h, hu]) Tryz.underlying83 rfl (by kernel_rfl)
  exact this
theorem mapC_len (v : Value) (F : Nat → Int) : (mapC v F).length = 101 := by simp [mapC, numC]
theorem mapC_one {a : Option Addr} {n c : Nat} {F : Nat → Int} : ∀ u ∈ mapC (.slice a n c) F, u.oneCell' = true := fun u hu => by
  rcases List.mem_cons.1 hu with e | h
  · rw [e]; rfl
  · obtain ⟨k, _, rfl⟩ := List.mem_map.1 h
    rfl
theorem mapgAt_new (W : World) (v : Value) (F : Nat → Int) : MapgAt W.heap.size (W.alloc (.cells (mapC v F).toArray 83)) v F := (Go.MapKept.heap_alloc W _).1
theorem MapgAt.storeCells {b : Nat} {W : World} {v : Value} {F : Nat → Int} (h : MapgAt b W v F) (a : Option Addr) (n c : Nat) (G : Nat → Int) : (Go.storeCells ⟨b, 0, none⟩ (mapC (.slice a n c) G)).run Tryz.prog W = .ok () (W.setRow b (mapC (.slice a n c) G).toArray) := by
  have := run_storeCells_from (P := Tryz.prog) b 83 (mapC (.slice a n c) G) 0 _ W h (by simp [mapC_len]) mapC_one
  simpa using this
theorem MapgAt.setRow {b : Nat} {W : World} {v : Value} {F : Nat → Int} (h : MapgAt b W v F) (v' : Value) (G : Nat → Int) : MapgAt b (W.setRow b (mapC v' G).toArray) v' G := setRow_heap W b _ _ 83 (0, 0) h
theorem MapgAt.keep {b : Nat} {W W' : World} {v : Value} {F : Nat → Int} (h : MapgAt b W v F) (hk : W'.heap[b]? = W.heap[b]?) : MapgAt b W' v F := hk.trans h

end Go.Proofs.YthmjdfjchhohgaaGreatDoor

namespace Go.Proofs.YthmjdfjchhohgaaGreatDoor
open Go.RowKit Go.Sort

/-- Values in a block of their own. -/
def VecAt (t : TypeId) (n : Nat) (b : Nat) (W : World) (g : Nat → Value) : Prop := W.heap[b]? = some (.cells ((List.range n).map g).toArray t (0, 0))
section
variable {t : TypeId} {n b : Nat} {W W' : World} {g : Nat → Value}
theorem VecAt.cell (h : VecAt t n b W g) {k : Nat} (hk : k < n) : W.cell? ⟨b, k, none⟩ = some (g k) ∧ W.frozen? ⟨b, k, none⟩ = false := by
  have h' : W.heap[b]? = some (.cells ((List.range n).map g).toArray t (0, 0)) := h
  constructor
  · simp [World.cell?, h', hk]
  · simp [World.frozen?, h']
theorem VecAt.lt (h : VecAt t n b W g) : b < W.heap.size := (Array.getElem?_eq_some_iff.1 h).1
theorem VecAt.below (h : VecAt t n b W g) (hB : Below W.heap.size W W') : VecAt t n b W' g := (hB.block b h.lt).trans h
theorem VecAt.keep (h : VecAt t n b W g) (hk : W'.heap[b]? = W.heap[b]?) : VecAt t n b W' g := hk.trans h
theorem VecAt.put (h : VecAt t n b W g) (k : Nat) (x : Value) : VecAt t n b (W.setCell ⟨b, k, none⟩ x) (fun i => if i = k then x else g i) := by
  have h1 := heap_setCell_same W b k _ t x h
  unfold VecAt
  rw [h1]
  congr 2
  refine Array.ext_getElem? fun i => ?_
  by_cases hi : i < n
  · by_cases e : k = i
    · subst e; simp [hi, Array.setIfInBounds]
    · have e2 : ¬ i = k := fun h => e h.symm
      simp [hi, e, e2]
  · simp [hi]
theorem VecAt.conv (h : VecAt t n b W g) {g' : Nat → Value} (hg : ∀ k, k < n → g k = g' k) : VecAt t n b W g' := by
  unfold VecAt at h ⊢
  rw [h]
  congr 3
  exact List.map_congr_left fun k hk => hg k (List.mem_range.1 hk)
end

/-- A made slice of elements of two cells. -/
theorem made_two (w : World) (z : Value) (n : Nat) (t : TypeId) : VecAt t (n * 2) w.heap.size (w.alloc (.cells (madeCells #[z, z] (n * 2)) t)) (fun _ => z) := by
  unfold VecAt
  rw [(Go.MapKept.heap_alloc w _).1]
  congr 2
  refine Array.ext (by simp [madeCells]) fun i h1 h2 => ?_
  have h3 : i < n * 2 := by simpa [madeCells] using h1
  simp only [madeCells, Array.getElem_map, Array.getElem_range, List.getElem_toArray, List.getElem_map]
  rcases (show i % 2 = 0 ∨ i % 2 = 1 by omega) with h | h <;> simp [h]

end Go.Proofs.YthmjdfjchhohgaaGreatDoor

namespace Go.Proofs.YthmjdfjchhohgaaGreatDoor
open Go.RowKit

theorem wrapI {x : Int} (h0 : -10000000 ≤ x) (h1 : x ≤ 10000000) : IntKind.i64.wrap x = x := by rw [IntKind.wrap_i64]; omega
theorem Hid.mk' {p : Prop} (h : p) : Hid p := h

end Go.Proofs.YthmjdfjchhohgaaGreatDoor

namespace Go.Proofs.YthmjdfjchhohgaaGreatDoor
open Go.RowKit Go.Sort

theorem setRow_self {W : World} {b : Nat} {c : Array Value} {t : TypeId} {f : Nat × Nat} (h : W.heap[b]? = some (.cells c t f)) : W.setRow b c = W := by
  have e : (W.setRow b c).heap = W.heap := by
    refine Array.ext_getElem? fun i => ?_
    by_cases hi : i = b
    · subst hi
      rw [setRow_heap W i _ _ t f h, h]
    · exact setRow_other _ _ _ _ hi
  show ({ heap := (W.setRow b c).heap, tape := W.tape, drawn := W.drawn, os := W.os, output := W.output } : World) = W
  rw [e]
theorem MapgAt.storeSame {b : Nat} {W : World} {a : Option Addr} {n c : Nat} {F : Nat → Int} (h : MapgAt b W (.slice a n c) F) : (Go.storeCells ⟨b, 0, none⟩ (mapC (.slice a n c) F)).run Tryz.prog W = .ok () W := by
  rw [h.storeCells a n c F, setRow_self h]

theorem MapgAt.storeAt {b : Nat} {W : World} {v : Value} {F : Nat → Int} (h : MapgAt b W v F) (a : Option Addr) (n c : Nat) (G : Nat → Int) : (Instr.storeAt 83 (.pointer (some ⟨b, 0, none⟩)) (.agg (mapC (.slice a n c) G).toArray)).run Tryz.prog W = .ok () (W.setRow b (mapC (.slice a n c) G).toArray) := by
  simp only [Instr.storeAt, Instr.sureAddr, Sem.run_bind, Sem.run_pure, Result.andThen_ok]
  exact run_storeVar_row W b 83 83 _ _ h (by rw [List.size_toArray, mapC_len]; kernel_rfl) (by simp [mapC_len]) (all_oneCell_toArray mapC_one)
theorem MapgAt.face {b : Nat} {W : World} {v : Value} {F : Nat → Int} (h : MapgAt b W v F) : W.cell? ⟨b, 0, none⟩ = some v := by
  unfold MapgAt at h
  simp [World.cell?, h, mapC]
/-- A shape in a box. -/
def ShBox (b : Nat) (W : World) (Q : Array Value) : Prop := W.heap[b]? = some (.cells Q 63 (0, 0))
theorem ShBox.lt {b : Nat} {W : World} {Q : Array Value} (h : ShBox b W Q) : b < W.heap.size := (Array.getElem?_eq_some_iff.1 h).1
theorem ShBox.below {b : Nat} {W W' : World} {Q : Array Value} (h : ShBox b W Q) (hB : Below W.heap.size W W') : ShBox b W' Q := (hB.block b h.lt).trans h
theorem ShBox.keep {b : Nat} {W W' : World} {Q : Array Value} (h : ShBox b W Q) (hk : W'.heap[b]? = W.heap[b]?) : ShBox b W' Q := hk.trans h
theorem ShBox.load {b : Nat} {W : World} {Q : Array Value} (h : ShBox b W Q) (hq : Q.size = 7) : (loadVar 63 ⟨b, 0, none⟩).run Tryz.prog W = .ok (.agg Q) W :=
  run_loadVar_row W b 63 63 _ (0, 0) _ h Tryz.underlying63 rfl (by rw [hq]; kernel_rfl)
theorem ShBox.loadAt {b : Nat} {W : World} {Q : Array Value} (h : ShBox b W Q) (hq : Q.size = 7) : (Instr.loadAt 63 (.pointer (some ⟨b, 0, none⟩))).run Tryz.prog W = .ok (.agg Q) W := by
  simp only [Instr.loadAt, Instr.sureAddr, Sem.run_bind, Sem.run_pure, Result.andThen_ok]
  exact h.load hq
theorem MapgAt.loadAt {b : Nat} {W : World} {v : Value} {F : Nat → Int} (h : MapgAt b W v F) : (Instr.loadAt 83 (.pointer (some ⟨b, 0, none⟩))).run Tryz.prog W = .ok (.agg (mapC v F).toArray) W := by
  simp only [Instr.loadAt, Instr.sureAddr, Sem.run_bind, Sem.run_pure, Result.andThen_ok]
  exact h.load
theorem ShBox.storeCells {b : Nat} {W : World} {Q Q' : Array Value} (h : ShBox b W Q) (hq : Q.size = 7) (hq' : Q'.size = 7) (h1 : ∀ u ∈ Q'.toList, u.oneCell' = true) : (Go.storeCells ⟨b, 0, none⟩ Q'.toList).run Tryz.prog W = .ok () (W.setRow b Q') := by
  have := run_storeCells_from (P := Tryz.prog) b 63 Q'.toList 0 _ W h (by simp [hq, hq']) h1
  simpa using this
theorem ShBox.setRow {b : Nat} {W : World} {Q : Array Value} (h : ShBox b W Q) (Q' : Array Value) : ShBox b (W.setRow b Q') Q' := setRow_heap W b _ _ 63 (0, 0) h
/-- The cells of no shape. -/
def shp0 : Array Value := #[.slice none 0 0, .slice none 0 0, .slice none 0 0, .slice none 0 0, .slice none 0 0, .slice none 0 0, .slice none 0 0]
theorem shBox_new (W : World) (Q : Array Value) : ShBox W.heap.size (W.alloc (.cells Q 63)) Q := (Go.MapKept.heap_alloc W _).1
theorem ShBox.cell {b : Nat} {W : World} {Q : Array Value} (h : ShBox b W Q) (k : Nat) : W.cell? ⟨b, k, none⟩ = Q[k]? := by
  unfold ShBox at h
  simp [World.cell?, h]
theorem seven_of {Q : Array Value} (h : Q.size = 7) : ∃ q0 q1 q2 q3 q4 q5 q6, Q = #[q0, q1, q2, q3, q4, q5, q6] := by
  refine ⟨Q[0], Q[1], Q[2], Q[3], Q[4], Q[5], Q[6], ?_⟩
  refine Array.ext (by simp [h]) fun i h1 h2 => ?_
  have : i < 7 := by omega
  rcases (show i = 0 ∨ i = 1 ∨ i = 2 ∨ i = 3 ∨ i = 4 ∨ i = 5 ∨ i = 6 by omega) with rfl | rfl | rfl | rfl | rfl | rfl | rfl <;> rfl
theorem ShBox.cells {b : Nat} {W : World} {q0 q1 q2 q3 q4 q5 q6 : Value} (h : ShBox b W #[q0, q1, q2, q3, q4, q5, q6]) : W.cell? ⟨b, 0, none⟩ = some q0 ∧ W.cell? ⟨b, 1, none⟩ = some q1 ∧ W.cell? ⟨b, 2, none⟩ = some q2 ∧ W.cell? ⟨b, 3, none⟩ = some q3 ∧ W.cell? ⟨b, 4, none⟩ = some q4 ∧ W.cell? ⟨b, 5, none⟩ = some q5 ∧ W.cell? ⟨b, 6, none⟩ = some q6 :=
  ⟨h.cell 0, h.cell 1, h.cell 2, h.cell 3, h.cell 4, h.cell 5, h.cell 6⟩

end Go.Proofs.YthmjdfjchhohgaaGreatDoor
