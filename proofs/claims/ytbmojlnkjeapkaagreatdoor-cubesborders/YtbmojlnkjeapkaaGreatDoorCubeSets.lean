/- The triangles of an image's squares; and that the reference's ImageSets answers them. -/
import Derived.Test.YtbmojlnkjeapkaaGreatDoorCubeDim
import Derived.Test.YtbmojlnkjeapkaaGreatDoorCubeErr
import Derived.Test.YtbmojlnkjeapkaaGreatDoorHeldQuiet
namespace Go.Proofs.YtbmojlnkjeapkaaGreatDoor
open Go.RowKit Go.Sort

/-- The two triangles of a square. -/
def triOf (w : Nat) (a : Sq) : List (List Int) :=
  [[a.2 * ((w : Int) + 1) + a.1, a.2 * ((w : Int) + 1) + a.1 + 1, a.2 * ((w : Int) + 1) + a.1 + (w : Int) + 1 + 1], [a.2 * ((w : Int) + 1) + a.1, a.2 * ((w : Int) + 1) + a.1 + (w : Int) + 1, a.2 * ((w : Int) + 1) + a.1 + (w : Int) + 1 + 1]]
def triI (w : Nat) (l : List Sq) : List (List Int) := l.flatMap (triOf w)

theorem triI_snoc (w : Nat) (l : List Sq) (a : Sq) : triI w (l ++ [a]) = triI w l ++ triOf w a := by simp [triI]
theorem triI_len (w : Nat) (l : List Sq) : (triI w l).length = 2 * l.length := by
  induction l with
  | nil => rfl
  | cons a l ih => unfold triI at ih ⊢; rw [List.flatMap_cons, List.length_append, ih]; simp [triOf]; omega
theorem triI_three (w : Nat) (l : List Sq) : ∀ x ∈ triI w l, x.length ≤ 1000 := fun x hx => by
  obtain ⟨a, _, h⟩ := List.mem_flatMap.1 hx
  simp only [triOf, List.mem_cons, List.not_mem_nil, or_false] at h
  rcases h with rfl | rfl <;> simp

/-- Full squares, as the rows are gone through. -/
def fullL (f : Int → Int → Bool) (l : List Sq) : List Sq := l.filter fun a => f a.1 a.2
theorem fullL_snoc (f : Int → Int → Bool) (l : List Sq) (a : Sq) : fullL f (l ++ [a]) = fullL f l ++ (if f a.1 a.2 then [a] else []) := by
  unfold fullL
  rw [List.filter_append]
  cases h : f a.1 a.2 <;> simp [h]

theorem squares_full (m : List (List UInt8)) (w h : Nat) : squaresL (fullAt m w h) (sqTo (w + 1) (h + 1)) = fullL (fullAt m w h) (sqTo w h) := by
  have hout : ∀ a : Sq, ¬ InSq w h a → fullAt m w h a.1 a.2 = false := fun a ha => by unfold fullAt; rw [decide_eq_false ha]; rfl
  have hrow : ∀ y, squaresL (fullAt m w h) (rowTo y (w + 1)) = fullL (fullAt m w h) (rowTo y w) := fun y => by
    rw [rowTo_succ, squaresL_snoc, if_neg (by unfold hereB; rw [hout ((w : Int), (y : Int)) (by unfold InSq; simp only; omega)]; simp), List.append_nil]
    rfl
  have hall : ∀ k, squaresL (fullAt m w h) (sqTo (w + 1) k) = fullL (fullAt m w h) (sqTo w k) := fun k => by
    induction k with
    | zero => rfl
    | succ k ih =>
      rw [sqTo_succ, sqTo_succ]
      unfold squaresL fullL at ih hrow ⊢
      rw [List.filter_append, List.filter_append, ih, hrow k]
  rw [hall, sqTo_succ]
  unfold fullL
  rw [List.filter_append]
  have : (rowTo h w).filter (fun a => fullAt m w h a.1 a.2) = [] := by
    rw [List.filter_eq_nil_iff]
    intro a ha
    have := mem_rowTo.1 ha
    rw [hout a (by unfold InSq; omega)]
    simp
  rw [this, List.append_nil]

/-- Two more rows, behind their append. -/
theorem OwnRows.push2 {base : Nat} {w w3 : World} {v v' u1 u2 : Value} {xss : List (List Int)} {x1 x2 : List Int} {vs : List Value} {o : Obj}
    (h1 : w.ownsRow base 40 1 v xss.length vs) (h2 : ∀ (k : Nat) (u : Value) (x : List Int), vs[k]? = some u → xss[k]? = some x → IntsIn (fun b => base ≤ b ∧ some b ≠ v.ownBlock) w u x)
    (hu1 : IntsIn (fun b => base ≤ b ∧ some b ≠ v.ownBlock) w u1 x1) (hu2 : IntsIn (fun b => base ≤ b ∧ some b ≠ v.ownBlock) w u2 x2) (hown : w3.ownsRow base 40 1 v' (xss.length + 2) (vs ++ [u1, u2])) (hg : (w.alloc o).grownBy w3 v.ownBlock) (hl : v'.ownBlock = v.ownBlock ∨ v'.ownBlock = some (w.alloc o).heap.size) :
    OwnRows base w3 v' (xss ++ [x1, x2]) := by
  have key : ∀ {u : Value} {x : List Int}, IntsIn (fun b => base ≤ b ∧ some b ≠ v.ownBlock) w u x → IntsIn (fun b => base ≤ b ∧ some b ≠ v'.ownBlock) w3 u x := fun {u x} h => by
    have h' : IntsIn (fun b => base ≤ b ∧ some b ≠ v.ownBlock ∧ some b ≠ v'.ownBlock) w u x := SliceIn.mono h (fun b hb hne => ⟨hne.1, hne.2, fun e => by
      rcases hl with hl | hl
      · exact hne.2 (e.trans hl)
      · rw [hl] at e; simp at e; omega⟩)
    have h'' : IntsIn (fun b => base ≤ b ∧ some b ≠ v.ownBlock ∧ some b ≠ v'.ownBlock) w3 u x := SliceIn.keep h' (fun b hb hne => by
      rw [hg.block b (by simp; omega) hne.2.1]
      exact (World.grownBy_alloc w o none).block b hb (by simp))
    exact SliceIn.mono h'' (fun b _ hne => ⟨hne.1, hne.2.2⟩)
  have hvl : vs.length = xss.length := by have := h1.1; simpa using this
  refine ⟨vs ++ [u1, u2], by simpa using hown, fun k u' x' hu' hx' => ?_⟩
  rw [List.getElem?_append] at hu' hx'
  rw [hvl] at hu'
  by_cases hk : k < xss.length
  · rw [if_pos hk] at hu' hx'
    exact key (h2 k u' x' hu' hx')
  · rw [if_neg hk] at hu' hx'
    obtain ⟨j, hj⟩ : ∃ j, k - xss.length = j := ⟨_, rfl⟩
    rw [hj] at hu' hx'
    match j with
    | 0 => simp at hu' hx'; subst hu'; subst hx'; exact key hu1
    | 1 => simp at hu' hx'; subst hu'; subst hx'; exact key hu2
    | n + 2 => simp at hu'

set_option maxRecDepth 100000 in
set_option maxHeartbeats 4000000 in
theorem image_sets (vm : Value) (m : List (List UInt8)) (w : World) (hm : Strs w vm m) (hi : Img m) (hr24 : m.length ≤ 24) (hc24 : wide m ≤ 24) :
    Calls Tryz.prog 10 #[vm] w fun e w' => ∃ v, e = .returned v ∧ OwnRows w.heap.size w' v (triI (wide m) (fullL (fullAt m (wide m) m.length) (sqTo (wide m) m.length))) ∧ Below w.heap.size w w' := by
  obtain ⟨i0, hi0, hz0, hz1, hz2⟩ := info_parts Tryz.info40
  obtain ⟨j0, hj0, hy0, hy1, hy2⟩ := info_parts Tryz.info3
  have hfl : ∀ (x y : Int) (V : World), Below w.heap.size w V → (-1000000 ≤ x ∧ x ≤ 1000000) → (-1000000 ≤ y ∧ y ≤ 1000000) → Calls Tryz.prog 26 #[vm, .int .i64 x, .int .i64 y] V fun e w' => e = .returned (.bool (fullAt m (wide m) m.length x y)) ∧ w' = V := fun x y V hV hx hy => ref_full vm m V (hm.below hV) hi x y hx hy
  obtain ⟨f, hf⟩ : ∃ f, fullAt m (wide m) m.length = f := ⟨_, rfl⟩
  rw [hf] at hfl ⊢
  have HI : Hid (Img m) := hi
  obtain ⟨a, ca, rfl, -, ha⟩ := hm.open_
  clear hm hi hf
  go_enter Tryz.func10, Tryz.ntmps10
  go_wp2_with fail
  go_loopw [3, 4] (fun v p W => ∃ k : Nat, k ≤ m.length ∧ p = .int .i64 k ∧ Hid (OwnRows w.heap.size W v (triI (wide m) (fullL f (sqTo (wide m) k)))) ∧ Hid (Below w.heap.size w W)) (fun _ p _ => m.length - (intOf p).toNat)
  case atStart => exact ⟨0, by omega, rfl, OwnRows.nil _ _, Below.refl _ _⟩
  case round =>
    obtain ⟨k, hk, rfl, HO, HB⟩ := hrel
    by_cases hlt : k < m.length
    · obtain ⟨b, o, rfl, -, hb, c⟩ := ha (by omega)
      go_wp2_with fail
      go_loopw [3, 5] (fun v p W => ∃ j : Nat, j ≤ wide m ∧ p = .int .i64 j ∧ Hid (OwnRows w.heap.size W v (triI (wide m) (fullL f (sqTo (wide m) k ++ rowTo k j)))) ∧ Hid (Below w.heap.size w W)) (fun _ p _ => wide m - (intOf p).toNat)
      case atStart => exact ⟨0, by omega, rfl, by rw [rowTo_zero, List.append_nil]; exact HO.out, HB.out⟩
      case round =>
        obtain ⟨j, hj, rfl, HOx, HBx⟩ := hrel
        clear HO HB
        obtain ⟨s, hs⟩ : ∃ s, (⟨(m[k]?.getD []).toArray⟩ : ByteArray) = s := ⟨_, rfl⟩
        have cj : wr.cell? ⟨b, o + k, none⟩ = some (.string s) := (HBx.out.cell (p := ⟨b, o + k, none⟩) hb).trans ((c k hlt).trans (by rw [← hs]))
        have hsz : s.size = wide m := (text_size hs).trans (row_of HI.out hlt)
        have i1 : (k : Int) < (m.length : Int) := by omega
        by_cases hjt : j < wide m
        · have i2 : (j : Int) < (wide m : Int) := by omega
          have hfc := hfl (j : Int) (k : Int) wr HBx.out (by omega) (by omega)
          obtain ⟨q, hq⟩ : ∃ q, f (j : Int) (k : Int) = q := ⟨_, rfl⟩
          rw [hq] at hfc
          have HL : Hid (sqTo (wide m) k ++ rowTo k (j + 1) = (sqTo (wide m) k ++ rowTo k j) ++ [((j : Int), (k : Int))]) := by rw [rowTo_succ, ← List.append_assoc]; exact rfl
          cases q with
          | false =>
            have HE : Hid (fullL f (sqTo (wide m) k ++ rowTo k (j + 1)) = fullL f (sqTo (wide m) k ++ rowTo k j)) := by show _ = _; rw [HL.out, fullL_snoc, if_neg (by rw [hq]; simp), List.append_nil]
            clear hq
            go_wp2_with (first
              | (go_at_call 26; refine hfc.mono ?_; rintro e w2 ⟨rfl, rfl⟩)
              | fail)
            go_roundw
            case rel => exact ⟨j + 1, by omega, by go_num, by rw [HE.out]; exact HOx.out, HBx.out⟩
            case measure => simp [intOf]; omega
          | true =>
            have HE : Hid (fullL f (sqTo (wide m) k ++ rowTo k (j + 1)) = fullL f (sqTo (wide m) k ++ rowTo k j) ++ [((j : Int), (k : Int))]) := by show _ = _; rw [HL.out, fullL_snoc, if_pos (by rw [hq])]
            clear hq
            obtain ⟨kn, hkn⟩ : ∃ kn : Nat, k * (wide m + 1) = kn := ⟨_, rfl⟩
            have hknl : kn ≤ 600 := by
              have : k * (wide m + 1) ≤ 24 * 25 := Nat.mul_le_mul (by omega) (by omega)
              omega
            have ekn : (k : Int) * ((wide m : Int) + 1) = (kn : Int) := by rw [← hkn]; simp
            have p1 : IntKind.i64.wrap ((k : Int) * ((wide m : Int) + 1)) = (kn : Int) := by rw [ekn]; exact wrapI (by omega) (by omega)
            have p2 : IntKind.i64.wrap (((k : Int) + 1) * ((wide m : Int) + 1)) = (kn : Int) + (wide m : Int) + 1 := by
              rw [Int.add_mul, ekn, Int.one_mul, ← Int.add_assoc]; exact wrapI (by omega) (by omega)
            have HKN : Hid ((k : Int) * ((wide m : Int) + 1) = (kn : Int)) := ekn
            clear hkn ekn
            obtain ⟨T, hT⟩ : ∃ T, triI (wide m) (fullL f (sqTo (wide m) k ++ rowTo k j)) = T := ⟨_, rfl⟩
            have HT : Hid (triI (wide m) (fullL f (sqTo (wide m) k ++ rowTo k j)) = T) := hT
            have hTl : T.length ≤ 2000 := by
              have h1 : (fullL f (sqTo (wide m) k ++ rowTo k j)).length ≤ (sqTo (wide m) k ++ rowTo k j).length := List.length_filter_le ..
              rw [List.length_append, sqTo_len, rowTo_len] at h1
              have h2 : k * wide m ≤ 24 * 24 := Nat.mul_le_mul (by omega) hc24
              rw [← hT, triI_len]
              omega
            rw [hT] at HOx
            obtain ⟨TN, hTN⟩ : ∃ TN, T.length = TN := ⟨_, rfl⟩
            have HTN : Hid (T.length = TN) := hTN
            rw [hTN] at hTl
            have hws : w.heap.size ≤ wr.heap.size := HBx.out.size
            clear hT hTN
            go_wp2_with (first
              | (go_at_call 26; refine hfc.mono ?_; rintro e w2 ⟨rfl, rfl⟩)
              | (at_builtin; refine wpList_append_own_at _ rfl (.tmp 35) (.tmp 54) 40 rfl w2.heap.size 3 j0 (.int .i64 0) 1 8 Tryz.underlying40 hj0 hy0 hy1 hy2 rfl (by decide) _ 0 [] rfl (World.ownsRow_nil _ _ _ _) ⟨_, 0, none⟩ 3 3 [.int .i64 ((kn : Int) + (j : Int)), .int .i64 ((kn : Int) + (j : Int) + 1), .int .i64 ((kn : Int) + (wide m : Int) + 1 + (j : Int) + 1)] rfl rfl (cells_new _ _ _) (by simp [Value.oneCell']) (by decide) (by decide) (by simp) ?_; intro v1 w1 hown1 hg1 hn1 hl1; obtain ⟨a1, c1, rfl⟩ := own_slice hown1; have HB1 : Hid (Below w2.heap.size w2 w1) := ((Below.refl _ w2).alloc (Nat.le_refl _) _).grown hg1 (by simp) (fun b hb => by cases hb); have HI1 : Hid (IntsIn (fun b => w2.heap.size ≤ b) w1 (.slice a1 3 c1) [(kn : Int) + (j : Int), (kn : Int) + (j : Int) + 1, (kn : Int) + (wide m : Int) + 1 + (j : Int) + 1]) := slice_of_owns (cs := [.int .i64 ((kn : Int) + (j : Int)), .int .i64 ((kn : Int) + (j : Int) + 1), .int .i64 ((kn : Int) + (wide m : Int) + 1 + (j : Int) + 1)]) (by simpa using hown1) (fun b hb _ => hb); clear hown1 hg1 hn1 hl1)
              | (at_builtin; refine wpList_append_own_at _ rfl (.tmp 56) (.tmp 75) 40 rfl w1.heap.size 3 j0 (.int .i64 0) 1 8 Tryz.underlying40 hj0 hy0 hy1 hy2 rfl (by decide) _ 0 [] rfl (World.ownsRow_nil _ _ _ _) ⟨_, 0, none⟩ 3 3 [.int .i64 ((kn : Int) + (j : Int)), .int .i64 ((kn : Int) + (wide m : Int) + 1 + (j : Int)), .int .i64 ((kn : Int) + (wide m : Int) + 1 + (j : Int) + 1)] rfl rfl (cells_new _ _ _) (by simp [Value.oneCell']) (by decide) (by decide) (by simp) ?_; intro v3 w3 hown3 hg3 hn3 hl3; obtain ⟨a3, c3, rfl⟩ := own_slice hown3; have HB3 : Hid (Below w1.heap.size w1 w3) := ((Below.refl _ w1).alloc (Nat.le_refl _) _).grown hg3 (by simp) (fun b hb => by cases hb); have HI3 : Hid (IntsIn (fun b => w1.heap.size ≤ b) w3 (.slice a3 3 c3) [(kn : Int) + (j : Int), (kn : Int) + (wide m : Int) + 1 + (j : Int), (kn : Int) + (wide m : Int) + 1 + (j : Int) + 1]) := slice_of_owns (cs := [.int .i64 ((kn : Int) + (j : Int)), .int .i64 ((kn : Int) + (wide m : Int) + 1 + (j : Int)), .int .i64 ((kn : Int) + (wide m : Int) + 1 + (j : Int) + 1)]) (by simpa using hown3) (fun b hb _ => hb); have HB4 : Hid (Below w2.heap.size w2 w3) := HB1.out.trans (HB3.out.mono HB1.out.size); obtain ⟨vs, hv1, hv2⟩ := HOx.out.below HB4.out; rw [HTN.out] at hv1; have HV2 : Hid (∀ (k : Nat) (u : Value) (x : List Int), vs[k]? = some u → T[k]? = some x → IntsIn (fun b => w.heap.size ≤ b ∧ some b ≠ u3.ownBlock) w3 u x) := hv2; have hws3 : w.heap.size ≤ w3.heap.size := Nat.le_trans hws HB4.out.size; clear hown3 hg3 hn3 hl3 hv2)
              | (at_builtin; refine wpList_append_own_at _ rfl (.tmp 77) (.tmp 80) 26 rfl w.heap.size 40 i0 (.slice none 0 0) 1 24 Tryz.underlying26 hi0 hz0 hz1 hz2 rfl (by decide) _ TN vs rfl (hv1.alloc _) ⟨_, 0, none⟩ 2 2 [.slice a1 3 c1, .slice a3 3 c3] rfl rfl (cells_new _ _ _) (by simp [Value.oneCell']) (by unfold maxLen; omega) (by omega) (by simp; omega) ?_; intro v5 w5 hown5 hg5 hn5 hl5)
              | fail)
            go_roundw
            case rel =>
              have hub : ∀ b, u3.ownBlock = some b → b < w2.heap.size := fun b hb => (HOx.out.block hb).2
              have hs1 := HB1.out.size
              refine ⟨j + 1, by omega, by go_num, ?_, ((HBx.out.trans (HB4.out.mono hws)).alloc hws3 _).grown hg5 (by simp; omega) (fun b hb => (hv1.lt b hb).1)⟩
              rw [HE.out, triI_snoc, HT.out]
              have ht : triOf (wide m) ((j : Int), (k : Int)) = [[(kn : Int) + (j : Int), (kn : Int) + (j : Int) + 1, (kn : Int) + (wide m : Int) + 1 + (j : Int) + 1], [(kn : Int) + (j : Int), (kn : Int) + (wide m : Int) + 1 + (j : Int), (kn : Int) + (wide m : Int) + 1 + (j : Int) + 1]] := by
                unfold triOf
                simp only [HKN.out, List.cons.injEq, and_true, true_and]
                omega
              rw [ht]
              rw [← HTN.out] at hv1 hown5
              refine OwnRows.push2 hv1 HV2.out (SliceIn.below (SliceIn.mono HI1.out (fun b _ hb => ⟨by omega, fun e => ?_⟩)) HB3.out) (SliceIn.mono HI3.out (fun b _ hb => ⟨by omega, fun e => ?_⟩)) hown5 hg5 hl5
              · have := hub b e.symm; omega
              · have := hub b e.symm; omega
            case measure => simp [intOf]; omega
        · obtain rfl : j = wide m := by omega
          go_wp2_with fail
          go_roundw
          case rel => exact ⟨k + 1, by omega, by go_num, by rw [sqTo_succ]; exact HOx.out, HBx.out⟩
          case measure => simp [intOf]; omega
    · obtain rfl : k = m.length := by omega
      go_wp2_with fail
      go_ret
      exact ⟨_, rfl, HO.out, HB.out⟩

end Go.Proofs.YtbmojlnkjeapkaaGreatDoor
