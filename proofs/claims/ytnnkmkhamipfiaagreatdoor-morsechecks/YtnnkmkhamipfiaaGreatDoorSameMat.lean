/- What pairs and samePairs answer. Two pairs are compared. What samePairs answers. What arrow answers: of an edge the pairs are as they should be. Boundary of a good gradient in a dimension that is none. What the reference's SameMatrix and the second law file's ref answer. -/
import Derived.Test.YtnnkmkhamipfiaaGreatDoorTab
import Derived.Test.YtnnkmkhamipfiaaGreatDoorMorseCrit
import Derived.Deep.QuietTactic
import Derived.BigQuiet
import Derived.ChangeKeysEq
import Derived.Deep.DeepCutAuto
import Derived.Test.YtnnkmkhamipfiaaGreatDoorMorseFreeC
import Derived.Test.YtnnkmkhamipfiaaGreatDoorMorseChk2
import Derived.Test.YtnnkmkhamipfiaaGreatDoorRefPart
import Derived.Test.YtnnkmkhamipfiaaGreatDoorMorseUnder
namespace Go.Proofs.YtnnkmkhamipfiaaGreatDoor
open Go.RowKit Go.Sort

theorem DuoIn.cells {S : Nat → Prop} {W : World} {g o cap : Nat} {l : List Duo} (h : DuoIn S W (.slice (some ⟨g, o, none⟩) l.length cap) l) : ∀ j u, (duoCells l)[j]? = some u → W.cell? ((⟨g, o, none⟩ : Addr).add j) = some u := fun j u hu => by
  have hj : j < l.length * 2 := by have := (List.getElem?_eq_some_iff.1 hu).1; rwa [duoCells_len] at this
  obtain ⟨a', cap', e, hc⟩ := h
  cases e
  obtain ⟨g', o', e2, _, _, hcs⟩ := hc (by omega)
  cases e2
  obtain ⟨k, hk⟩ : ∃ k, j = k * 2 ∨ j = k * 2 + 1 := ⟨j / 2, by omega⟩
  have hkl : k < l.length := by omega
  have h1 := duoCells_at hkl
  rw [Addr.add_lit]
  rcases hk with rfl | rfl
  · rw [h1.1] at hu; cases hu; exact (hcs k hkl).1
  · rw [h1.2] at hu; cases hu; exact (hcs k hkl).2
theorem duoCells_one (l : List Duo) : ∀ u ∈ duoCells l, u.oneCell' = true := fun u hu => by
  obtain ⟨p, _, h⟩ := List.mem_flatMap.1 hu
  rcases List.mem_cons.1 h with rfl | h
  · rfl
  · rcases List.mem_cons.1 h with rfl | h
    · rfl
    · cases h

set_option maxRecDepth 100000 in
set_option maxHeartbeats 1000000 in
theorem pairs_ {S : Nat → Prop} (vp : Value) (ps : List Duo) (w : World) (hp : DuoIn S w vp ps) (hnil : ∀ cap, vp = .slice none 0 cap → cap = 0) (hl : ps.length ≤ 1000) :
    Calls Tryz.prog 13 #[vp] w fun e w' => ∃ v, e = .returned v ∧ DuoRow w.heap.size 69 w' v ps ∧ Below w.heap.size w w' := by
  obtain ⟨i0, hi0, hz0, hz1, hz2⟩ := info_parts Tryz.infop
  have hp0 := hp
  obtain ⟨ap, cp, rfl, hc⟩ := hp
  have HP : Hid (DuoIn S w (.slice ap ps.length cp) ps) := hp0
  cases ap with
  | none =>
    have h0 : ps = [] := by
      cases ps with
      | nil => rfl
      | cons p ps => obtain ⟨g, o, e, _⟩ := hc (by simp); cases e
    subst h0
    obtain rfl := hnil cp rfl
    clear hc hp0
    go_enter Tryz.func13, Tryz.ntmps13
    go_wp2_with (first
      | (at_builtin; refine wpList_append_own_none rfl (.tmp 4) (.tmp 5) 23 rfl w.heap.size 69 i0 2 Tryz.underlying23 hi0 (.slice none 0 0) 0 [] rfl (World.ownsRow_nil _ _ _ _) rfl ?_)
      | fail)
    go_ret
    exact ⟨_, rfl, World.ownsRow_nil _ _ _ _, Below.refl _ _⟩
  | some ad =>
    obtain ⟨m, hm⟩ : ∃ m, ps.length = m := ⟨_, rfl⟩
    have HM : Hid (ps.length = m) := hm
    have hcl : (duoCells ps).length = m * 2 := by rw [duoCells_len, hm]
    have hcells : ∀ j u, (duoCells ps)[j]? = some u → w.cell? (ad.add j) = some u := by
      intro j u hu
      have hj := (List.getElem?_eq_some_iff.1 hu).1
      rw [duoCells_len] at hj
      obtain ⟨g, o, e, _⟩ := hc (by omega)
      cases e
      exact DuoIn.cells HP.out j u hu
    have hone := duoCells_one ps
    obtain ⟨cells, hce⟩ : ∃ cells, duoCells ps = cells := ⟨_, rfl⟩
    have HCE : Hid (duoCells ps = cells) := hce
    rw [hce] at hcl hcells hone
    rw [hm] at hl ⊢
    clear hc hp0 hm hce
    go_enter Tryz.func13, Tryz.ntmps13
    go_wp2_with (first
      | (at_builtin; refine wpList_append_own_at _ rfl (.tmp 4) (.tmp 5) 23 rfl w.heap.size 69 i0 (.agg #[.int .i64 0, .int .i64 0]) 2 16 Tryz.underlying23 hi0 hz0 hz1 hz2 rfl (by decide) _ 0 [] rfl (World.ownsRow_nil _ _ _ _) ad m _ cells rfl hcl hcells hone (by unfold maxLen; omega) (by omega) (Nat.le_refl _) ?_; intro v5 w5 hown5 hg5 hn5 hl5)
      | fail)
    go_ret
    refine ⟨_, rfl, ?_, ?_⟩
    · unfold DuoRow
      rw [HM.out, HCE.out]
      simpa using hown5
    · exact (Below.refl _ w).grown hg5 (Nat.le_refl _) (fun b hb => by cases hb)

end Go.Proofs.YtnnkmkhamipfiaaGreatDoor

namespace Go.Proofs.YtnnkmkhamipfiaaGreatDoor
open Go.RowKit Go.Sort

theorem Tryz.cellsInt : Tryz.prog.cellsOf 3 = 1 := by kernel_rfl
theorem duo_equal (w : World) (a b c d : Int) : (Op.equalIn 10000 69 (.agg #[.int .i64 a, .int .i64 b]) (.agg #[.int .i64 c, .int .i64 d])).run Tryz.prog w = .ok ((a == c) && (b == d)) w := by
  obtain ⟨i0, hi0, -, -, -⟩ := info_parts Tryz.info3
  rw [run_equalIn_array w 9999 _ _ Tryz.underlying69 hi0, Tryz.cellsInt]
  have h1 : ∀ (w : World) (x y : Int), (Op.equalIn 9999 3 (.int .i64 x) (.int .i64 y)).run Tryz.prog w = .ok (x == y) w := fun w x y => run_equalIn_int w 9998 3 .i64 .i64 x y Tryz.underlying3
  have hp : ∀ (w : World) (x y : Int), ((part 3 #[.int .i64 x, .int .i64 y] 0).run Tryz.prog w = .ok (.int .i64 x) w) ∧ ((part 3 #[.int .i64 x, .int .i64 y] 1).run Tryz.prog w = .ok (.int .i64 y) w) := fun w x y => by
    constructor <;> simp [part, go_sem]
  show (Op.eqItems 9999 3 1 _ _ [0, 1]).run _ w = _
  simp only [Op.eqItems, Sem.run_bind, Nat.zero_mul, Nat.one_mul, (hp _ _ _).1, Result.andThen_ok, h1]
  cases h : (a == c) <;> cases h' : (b == d) <;> simp [h1, h', (hp _ _ _).2]

end Go.Proofs.YtnnkmkhamipfiaaGreatDoor

namespace Go.Proofs.YtnnkmkhamipfiaaGreatDoor
open Go.RowKit Go.Sort

attribute [local go_sem] duo_equal

theorem DuoIn.open_ {S : Nat → Prop} {W : World} {v : Value} {l : List Duo} (h : DuoIn S W v l) : ∃ a cap, v = .slice a l.length cap ∧ (0 < l.length → ∃ g o, a = some ⟨g, o, none⟩ ∧ ∀ k (hk : k < l.length), W.cell? ⟨g, o + k * 2, none⟩ = some (.int .i64 l[k].1) ∧ W.cell? ⟨g, o + (k * 2 + 1), none⟩ = some (.int .i64 l[k].2)) := by
  obtain ⟨a, cap, e, hc⟩ := h
  exact ⟨a, cap, e, fun h0 => by obtain ⟨g, o, e1, _, _, e4⟩ := hc h0; exact ⟨g, o, e1, e4⟩⟩

theorem below_draws {b : Nat} {w W : World} (h : Below b w W) (n : Nat) : Below b w (W.drewN n) := ⟨h.os, h.tape, h.output, h.size, h.block⟩

set_option maxRecDepth 100000 in
set_option maxHeartbeats 2000000 in
theorem same_pairs {S S' : Nat → Prop} (va vb : Value) (xs ys : List Duo) (w : World) (ha : DuoIn S w va xs) (hb : DuoIn S' w vb ys) (hl : xs.length ≤ 1000) (_hl2 : ys.length ≤ 1000) :
    Calls Tryz.prog 28 #[va, vb] w fun e w' => e = .returned (.bool (decide (xs = ys))) ∧ Below w.heap.size w w' := by
  obtain ⟨aa, ca, rfl, hxa⟩ := ha.open_
  obtain ⟨ab, cb, rfl, hxb⟩ := hb.open_
  have HXA := Hid.mk' hxa
  have HXB := Hid.mk' hxb
  by_cases hle : xs.length = ys.length
  · have HLE : Hid (xs.length = ys.length) := hle
    obtain ⟨n, hn⟩ : ∃ n, xs.length = n := ⟨_, rfl⟩
    have HN : Hid (xs.length = n) := hn
    rw [← hle, hn]
    rw [hn] at hl
    clear ha hb hxa hxb hle hn _hl2
    go_enter Tryz.func28, Tryz.ntmps28
    go_wp2_with fail
    go_loopw [5] (fun p W => ∃ k : Nat, k ≤ n ∧ p = .int .i64 k ∧ Hid ((∀ j (h1 : j < xs.length) (h2 : j < ys.length), j < k → xs[j] = ys[j]) ∧ Below w.heap.size w W)) (fun p _ => n - (intOf p).toNat)
    case atStart => exact ⟨0, by omega, rfl, fun j _ _ h => by omega, Below.refl _ _⟩
    case round =>
      obtain ⟨k, hk, rfl, HK⟩ := hrel
      by_cases hkn : k < n
      · have h1 : k < xs.length := by rw [HN.out]; exact hkn
        have h2 : k < ys.length := by rw [← HLE.out, HN.out]; exact hkn
        obtain ⟨ga, oa, rfl, hca⟩ := HXA.out (by omega)
        obtain ⟨gb, ob, rfl, hcb⟩ := HXB.out (by omega)
        have a01 := hca k h1
        have b01 := hcb k h2
        obtain ⟨x0, hx0⟩ : ∃ x0, xs[k].1 = x0 := ⟨_, rfl⟩
        obtain ⟨x1, hx1⟩ : ∃ x1, xs[k].2 = x1 := ⟨_, rfl⟩
        obtain ⟨y0, hy0⟩ : ∃ y0, ys[k].1 = y0 := ⟨_, rfl⟩
        obtain ⟨y1, hy1⟩ : ∃ y1, ys[k].2 = y1 := ⟨_, rfl⟩
        rw [hx0, hx1] at a01
        rw [hy0, hy1] at b01
        have a0 := (HK.out.2.cell (p := ⟨ga, oa + k * 2, none⟩) (cell_lt (p := ⟨ga, oa + k * 2, none⟩) a01.1)).trans a01.1
        have a1 : wr.cell? ⟨ga, oa + k * 2 + 1, none⟩ = some (.int .i64 x1) := (HK.out.2.cell (p := ⟨ga, oa + (k * 2 + 1), none⟩) (cell_lt (p := ⟨ga, oa + (k * 2 + 1), none⟩) a01.2)).trans a01.2
        have b0 := (HK.out.2.cell (p := ⟨gb, ob + k * 2, none⟩) (cell_lt (p := ⟨gb, ob + k * 2, none⟩) b01.1)).trans b01.1
        have b1 : wr.cell? ⟨gb, ob + k * 2 + 1, none⟩ = some (.int .i64 y1) := (HK.out.2.cell (p := ⟨gb, ob + (k * 2 + 1), none⟩) (cell_lt (p := ⟨gb, ob + (k * 2 + 1), none⟩) b01.2)).trans b01.2
        have HEQ : Hid (xs[k] = ys[k] ↔ x0 = y0 ∧ x1 = y1) := by
          show _ ↔ _
          rw [← hx0, ← hx1, ← hy0, ← hy1]
          exact Prod.ext_iff
        have z0 : (0 : Int) ≤ (k : Int) := by omega
        have z1 : (k : Int) < (n : Int) := by omega
        clear a01 b01 hca hcb hx0 hx1 hy0 hy1
        go_upto_region 6 with fail
        obtain ⟨q, hq⟩ : ∃ q, ((x0 == y0) && (x1 == y1)) = q := ⟨_, rfl⟩
        have HQ : Hid (q = true ↔ xs[k] = ys[k]) := by
          show _ ↔ _
          rw [HEQ.out, ← hq, Bool.and_eq_true, beq_iff_eq, beq_iff_eq]
        cases q
        · go_quiet (fail)
          go_wp2_with fail
          go_ret
          refine ⟨?_, below_draws HK.out.2 nq⟩
          rw [decide_eq_false fun e => by have := HQ.out.2 (by subst e; rfl); cases this]
          rfl
        · go_quiet (fail)
          go_wp2_with fail
          refine ⟨⟨k + 1, by omega, by go_num, fun j h1 h2 h3 => ?_, below_draws HK.out.2 nq⟩, by simp [intOf]; omega⟩
          by_cases e : j = k
          · subst e; exact HQ.out.1 rfl
          · exact HK.out.1 j h1 h2 (by omega)
      · obtain rfl : k = n := by omega
        go_wp2_with fail
        go_ret
        refine ⟨?_, HK.out.2⟩
        have : xs = ys := List.ext_getElem HLE.out (fun j h1 h2 => HK.out.1 j h1 h2 (by rw [← HN.out]; exact h1))
        rw [decide_eq_true this]
        rfl
  · have hne : ((xs.length : Int) != (ys.length : Int)) = true := by simpa using fun e => hle (by omega)
    have HD : Hid (decide (xs = ys) = false) := decide_eq_false fun e => hle (by rw [e])
    obtain ⟨n, hn⟩ : ∃ n, xs.length = n := ⟨_, rfl⟩
    obtain ⟨m, hm⟩ : ∃ m, ys.length = m := ⟨_, rfl⟩
    rw [hn, hm] at hne ⊢
    clear ha hb hxa hxb hle hn hm
    go_enter Tryz.func28, Tryz.ntmps28
    go_wp2_with fail
    go_ret
    exact ⟨by rw [HD.out]; rfl, Below.refl _ _⟩

end Go.Proofs.YtnnkmkhamipfiaaGreatDoor

namespace Go.Proofs.YtnnkmkhamipfiaaGreatDoor
open Go.RowKit Go.Sort

def edgeA : List (List Int) := [[0], [0, 1], [1]]
theorem sub_nil {x : List Int} (h : x.Sublist []) : x = [] := List.sublist_nil.1 h
theorem edge_sub {x : List Int} (h : x.Sublist [0, 1]) (hx : x ≠ []) : x ∈ edgeA := by
  unfold edgeA
  cases h with
  | cons _ h => cases h with
    | cons _ h => exact absurd (sub_nil h) hx
    | cons_cons _ h => rw [sub_nil h]; decide
  | cons_cons _ h => cases h with
    | cons _ h => rw [sub_nil h]; decide
    | cons_cons _ h => rw [sub_nil h]; decide
theorem edge_faces (x : List Int) : x ∈ edgeA ↔ FaceOf [[0, 1]] x := by
  constructor
  · intro h
    unfold edgeA at h
    simp only [List.mem_cons, List.not_mem_nil, or_false] at h
    rcases h with rfl | rfl | rfl <;> exact ⟨by decide, [0, 1], .head _, by decide⟩
  · rintro ⟨h1, t, ht, hs⟩
    rw [List.mem_singleton.1 ht] at hs
    exact edge_sub hs h1
theorem good_edge : Good [[0, 1]] edgeA := by
  have hr : ∀ t ∈ ([[0, 1]] : List (List Int)), Rising t := fun t ht => by rw [List.mem_singleton.1 ht]; unfold Rising; decide
  refine ⟨fun x hx => by rw [List.mem_singleton.1 hx]; unfold SetOk; decide, ?_, ?_, by decide⟩
  · rw [map_srt hr]
    rintro (⟨t, ht, h7⟩ | ⟨X, hn, h6, hx⟩)
    · rw [List.mem_singleton.1 ht] at h7; simp at h7
    · have := nodup_le hn (fun x hx' => (edge_faces x).2 (hx x hx'))
      have e : edgeA.length = 3 := rfl
      omega
  · rw [map_srt hr]
    exact ⟨by simp [Order, ahead, edgeA], edge_faces⟩
theorem edge_num : numL edgeA = [[0], [1], [0, 1]] := by decide
theorem edge_free : freeTo (numL edgeA) allL (numL edgeA).length = [(0, 2), (1, 2)] := by rw [edge_num]; decide

/-- One edge, laid. -/
theorem rows_edge (W : World) (t t' : TypeId) : Rows ((W.alloc (.cells #[.int .i64 0, .int .i64 1] t)).alloc (.cells #[.slice (some ⟨W.heap.size, 0, none⟩) 2 2] t')) (.slice (some ⟨W.heap.size + 1, 0, none⟩) 1 1) [[0, 1]] := by
  have h1 : IntsIn anyBlock (W.alloc (.cells #[.int .i64 0, .int .i64 1] t)) (.slice (some ⟨W.heap.size, 0, none⟩) 2 2) [0, 1] :=
    ⟨_, _, rfl, ⟨Nat.le_refl _, fun h => by cases h⟩, fun _ => ⟨W.heap.size, 0, rfl, trivial, fun k u hu => by
      have := cells_new W [.int .i64 0, .int .i64 1] t k u (by simpa using hu)
      rwa [Addr.add_lit] at this⟩⟩
  have h2 := slice_one (W.alloc (.cells #[.int .i64 0, .int .i64 1] t)) (.slice (some ⟨W.heap.size, 0, none⟩) 2 2) t'
  rw [World.size_alloc] at h2
  refine ⟨_, h2, rfl, fun k u x hu hx => ?_⟩
  cases k with
  | zero =>
    simp at hu hx
    subst hu; subst hx
    exact SliceIn.below h1 ((Below.refl _ _).alloc (Nat.le_refl _) _)
  | succ k => simp at hu
/-- The two pairs, laid. -/
theorem duos_edge (W : World) (t : TypeId) : DuoIn anyBlock (W.alloc (.cells #[.int .i64 0, .int .i64 2, .int .i64 1, .int .i64 2] t)) (.slice (some ⟨W.heap.size, 0, none⟩) 2 2) [(0, 2), (1, 2)] := by
  have h := cells_new W [.int .i64 0, .int .i64 2, .int .i64 1, .int .i64 2] t
  refine ⟨_, _, rfl, fun _ => ⟨W.heap.size, 0, rfl, trivial, by simp, fun k hk => ?_⟩⟩
  have e : ∀ j u, [Value.int .i64 0, .int .i64 2, .int .i64 1, .int .i64 2][j]? = some u → (W.alloc (.cells #[.int .i64 0, .int .i64 2, .int .i64 1, .int .i64 2] t)).cell? ⟨W.heap.size, 0 + j, none⟩ = some u := fun j u hu => by
    have := h j u hu
    rwa [Addr.add_lit] at this
  have hk2 : k < 2 := hk
  rcases (show k = 0 ∨ k = 1 by omega) with rfl | rfl
  · exact ⟨e 0 _ rfl, e 1 _ rfl⟩
  · exact ⟨e 2 _ rfl, e 3 _ rfl⟩

set_option maxRecDepth 100000 in
set_option maxHeartbeats 2000000 in
theorem arrow_ {a : Nat → Addr} {s : Nat → ByteArray} (w : World) (hE : Errs a s w) :
    Calls Tryz.prog 5 #[] w fun e w' => e = .returned (.bool true) ∧ Below w.heap.size w w' := by
  have hBa : Below w.heap.size w ((w.alloc (.cells #[.int .i64 0, .int .i64 1] 3)).alloc (.cells #[.slice (some ⟨w.heap.size, 0, none⟩) 2 2] 29)) := ((Below.refl _ w).alloc (Nat.le_refl _) _).alloc (by simp) _
  have hfr := free_ (.slice (some ⟨w.heap.size + 1, 0, none⟩) 1 1) [[0, 1]] _ (hE.below hBa) (rows_edge w 3 29) (by decide) (fun x hx => by rw [List.mem_singleton.1 hx]; decide)
  have HBA := Hid.mk' hBa
  clear hE hBa
  go_enter Tryz.func5, Tryz.ntmps5
  go_wp2_with fail
  refine hfr.mono ?_
  clear hfr
  rintro e w2 ⟨hB2, ⟨i, hbad, -⟩ | ⟨all, v, hg, rfl, hv⟩⟩
  · exact (bad_good hbad good_edge).elim
  · obtain rfl := good_one hg good_edge
    rw [edge_free] at hv
    have hd := duos_edge w2 69
    have hBd : Below w2.heap.size w2 (w2.alloc (.cells #[.int .i64 0, .int .i64 2, .int .i64 1, .int .i64 2] 69)) := (Below.refl _ w2).alloc (Nat.le_refl _) _
    have hsa := same_pairs v (.slice (some ⟨w2.heap.size, 0, none⟩) 2 2) [(0, 2), (1, 2)] [(0, 2), (1, 2)] _ ((hv.reads (S := anyBlock) (fun _ _ _ => trivial)).below hBd) hd (by decide) (by decide)
    rw [decide_eq_true rfl] at hsa
    have HB : Hid (Below w.heap.size w (w2.alloc (.cells #[.int .i64 0, .int .i64 2, .int .i64 1, .int .i64 2] 69))) := HBA.out.trans ((hB2.trans (hBd.mono hB2.size)).mono HBA.out.size)
    obtain ⟨av, cv, rfl⟩ := own_slice hv
    clear hg hv hd hB2 hBd
    go_wp2_with (first
      | (go_at_call 28; refine hsa.mono ?_; rintro e w3 ⟨rfl, hB3⟩; have HB3 := Hid.mk' hB3; clear hB3)
      | fail)
    go_ret
    exact ⟨rfl, HB.out.trans (HB3.out.mono HB.out.size)⟩

end Go.Proofs.YtnnkmkhamipfiaaGreatDoor

namespace Go.Proofs.YtnnkmkhamipfiaaGreatDoor
open Go.RowKit Go.Sort

set_option maxRecDepth 100000 in
set_option maxHeartbeats 4000000 in
theorem bound_dim {a : Nat → Addr} {s : Nat → ByteArray} {L : List (List Int)} {mt : Nat → Int} (al au : Option Addr) (ml cl mu cu : Nat) (d : Int) (hd : d < 0 ∨ 7 < d) (w : World) (hE : Errs a s w) (hf : ∀ V, Below w.heap.size w V → Calls Tryz.prog 37 #[.agg #[.slice al ml cl], .slice au mu cu] V fun e w' => GoodF L mt V e w') :
    Calls Tryz.prog 15 #[.agg #[.slice al ml cl], .slice au mu cu, .int .i64 d] w fun e w' => e = .returned (.tuple #[.agg #[.int .i64 0, .int .i64 0, .slice none 0 0], .iface 250 (.pointer (some (a 1)))]) ∧ Below w.heap.size w w' := by
  have hB1 : Below w.heap.size w ((w.alloc (.cells #[.slice al ml cl] 39)).alloc (.cells #[.int .i64 0, .int .i64 0, .slice none 0 0] 45)) := ((Below.refl _ w).alloc (Nat.le_refl _) _).alloc (by simp) _
  have c0 := (World.cell?_alloc_lt (w.alloc (.cells #[.slice al ml cl] 39)) (.cells #[.int .i64 0, .int .i64 0, .slice none 0 0] 45) ⟨w.heap.size, 0, none⟩ (by simp)).trans (box_new w (.slice al ml cl) 39).1
  have hmb := matBox_new (w.alloc (.cells #[.slice al ml cl] 39)) 0 0 (.slice none 0 0) 45
  rw [World.size_alloc] at hmb
  have hf1 := hf _ hB1
  have HB1 := Hid.mk' hB1
  have HMB := Hid.mk' hmb
  have HEE := Hid.mk' hE
  obtain ⟨n, hn⟩ : ∃ n, L.length = n := ⟨_, rfl⟩
  unfold GoodF fieldV at hf1
  rw [hn] at hf1
  clear hf hB1 hmb hn hE
  go_enter Tryz.func15, Tryz.ntmps15
  go_upto_region 4 with (first
    | (go_at_call 37; refine hf1.mono ?_; rintro e V ⟨ad, aS, ao, cd, cs, co, gm, rfl, hs, hr, hB⟩; have HV := Hid.mk' hB; clear hf1 hs hr hB)
    | fail)
  have hB2 := (Below.refl V.heap.size V).alloc (Nat.le_refl _) (.cells #[.slice ad n cd, .slice aS n cs, .slice ao n co, .slice (some ⟨gm, 0, none⟩) n n] 81)
  have hBV : Below w.heap.size w (V.alloc (.cells #[.slice ad n cd, .slice aS n cs, .slice ao n co, .slice (some ⟨gm, 0, none⟩) n n] 81)) := (HB1.out.trans (HV.out.mono (by simp; omega))).trans (hB2.mono (by have := HB1.out.size; have := HV.out.size; simp at this; omega))
  have hm2 := (HMB.out.below HV.out).below hB2
  obtain ⟨X, hX⟩ : ∃ X, V.alloc (.cells #[.slice ad n cd, .slice aS n cs, .slice ao n co, .slice (some ⟨gm, 0, none⟩) n n] 81) = X := ⟨_, rfl⟩
  obtain ⟨wb, hwb⟩ : ∃ wb, w.heap.size = wb := ⟨_, rfl⟩
  rw [hX] at hBV hm2
  rw [hwb] at hBV hm2
  try rw [hX]
  try rw [hwb]
  have HWB : Hid (w.heap.size = wb) := hwb
  have HBW := Hid.mk' hBV
  have HRB := Hid.mk' hm2
  have hgl : X.cell? ⟨0, 0, none⟩ = some (.iface 250 (.pointer (some (a 1)))) := (HEE.out.below (by rw [HWB.out]; exact hBV)).glob 1 (by decide)
  have hgx : 0 < wb := by have h2 : 0 < w.heap.size := cell_lt (HEE.out.glob 1 (by decide)); rw [HWB.out] at h2; exact h2
  have hglS : ∀ (Z : World) (j : Nat) (u : Value), Z.cell? ⟨0, 0, none⟩ = some (.iface 250 (.pointer (some (a 1)))) → (Z.setCell ⟨wb + 1, j, none⟩ u).cell? ⟨0, 0, none⟩ = some (.iface 250 (.pointer (some (a 1)))) := fun Z j u h => (World.cell?_setCell_other Z _ _ _ (addr_ne (.inl (by omega)))).trans h
  have hgl2 := hglS _ 2 (.slice none 0 0) (hglS _ 1 (.int .i64 0) (hglS _ 0 (.int .i64 0) hgl))
  obtain ⟨r0, f0⟩ := hm2.c0
  obtain ⟨r1, f1⟩ := hm2.c1
  obtain ⟨r2, f2⟩ := hm2.c2
  have key : decide (d < 0) = true ∨ (decide (d < 0) = false ∧ decide ((7 : Int) < d) = true) := by
    rcases hd with h | h
    · exact .inl (decide_eq_true h)
    · exact .inr ⟨decide_eq_false (by omega), decide_eq_true h⟩
  clear hglS hB2 hBV hm2 hX hwb hd
  rcases key with e1 | ⟨e1, e2⟩
  all_goals
    go_wp2_with fail
    go_region
    all_goals go_wp2
    all_goals
      have hp := HRB.out.put 0 0 (.slice none 0 0)
      have s0 := hp.c0.1
      have s1 := hp.c1.1
      have s2 := hp.c2.1
      refine bodyPost_ret (v := .tuple #[.agg #[.int .i64 0, .int .i64 0, .slice none 0 0], .iface 250 (.pointer (some (a 1)))]) ?_ rfl ?_
      · simp [results, Tryz.f15, go_sem, s0, s1, s2]
      · refine ⟨rfl, ?_⟩
        rw [HWB.out]
        exact (((HBW.out.setCell (p := ⟨wb + 1, 0, none⟩) (by simp) (.int .i64 0)).setCell (p := ⟨wb + 1, 1, none⟩) (by simp) (.int .i64 0)).setCell (p := ⟨wb + 1, 2, none⟩) (by simp) (.slice none 0 0)).drew

end Go.Proofs.YtnnkmkhamipfiaaGreatDoor

namespace Go.Proofs.YtnnkmkhamipfiaaGreatDoor
open Go.RowKit Go.Sort

set_option maxRecDepth 100000 in
theorem same_matrix (va vb : Value) (r c : Int) (L : List Int) (w : World) (ha : Ints w va L) (hb : Ints w vb L) (hl : L.length ≤ 1000000) :
    Calls Tryz.prog 20 #[.agg #[.int .i64 r, .int .i64 c, va], .agg #[.int .i64 r, .int .i64 c, vb]] w fun e w' => e = .returned (.bool true) ∧ Below w.heap.size w w' := by
  have HA : Hid (Ints w va L) := ha
  have HB : Hid (Ints w vb L) := hb
  obtain ⟨aa, ca, rfl, -, -⟩ := ha.open_
  obtain ⟨ab, cb, rfl, -, -⟩ := hb.open_
  have hBa : Below w.heap.size w ((w.alloc (.cells #[.int .i64 r, .int .i64 c, .slice aa L.length ca] 51)).alloc (.cells #[.int .i64 r, .int .i64 c, .slice ab L.length cb] 51)) := ((Below.refl _ w).alloc (Nat.le_refl _) _).alloc (by simp) _
  have hsi := same_ints _ _ L L _ (HA.out.below hBa) (HB.out.below hBa) hl
  rw [decide_eq_true rfl] at hsi
  clear ha hb
  go_enter Tryz.func20, Tryz.ntmps20
  go_wp2_with fail
  refine hsi.mono ?_
  clear hsi
  rintro e w2 ⟨rfl, q, hw2⟩
  have hB2 : Below w.heap.size w w2 := by rw [hw2]; exact hBa.trans ⟨rfl, rfl, rfl, Nat.le_refl _, fun _ _ => rfl⟩
  clear hw2
  go_wp2
  go_ret
  exact ⟨rfl, hB2⟩

set_option maxRecDepth 100000 in
theorem ref2_ (v : Value) (r c : Int) (L : List Int) (w : World) (h : Ints w v L) :
    Calls Tryz.prog 21 #[.agg #[.int .i64 r, .int .i64 c, v]] w fun e w' => e = .returned (.agg #[.int .i64 r, .int .i64 c, v]) ∧ Below w.heap.size w w' := by
  obtain ⟨av, cv, rfl, -, -⟩ := h.open_
  have hb := matBox_new (w.alloc (.cells #[.int .i64 r, .int .i64 c, .slice av L.length cv] 45)) r c (.slice av L.length cv) 51
  rw [World.size_alloc] at hb
  have t0 := hb.c0.1
  have t1 := hb.c1.1
  have t2 := hb.c2.1
  clear hb h
  go_enter Tryz.func21, Tryz.ntmps21
  go_wp2
  refine bodyPost_ret (v := .agg #[.int .i64 r, .int .i64 c, .slice av L.length cv]) ?_ rfl ⟨rfl, ((Below.refl _ w).alloc (Nat.le_refl _) _).alloc (by simp) _⟩
  simp [results, Tryz.f21, go_sem, t0, t1, t2]

end Go.Proofs.YtnnkmkhamipfiaaGreatDoor
