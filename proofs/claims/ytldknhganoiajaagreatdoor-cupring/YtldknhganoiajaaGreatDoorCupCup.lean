/- What multiplies: the ends of the faces, looked up once. -/
import Derived.Test.YtldknhganoiajaaGreatDoorCupSameP
import Derived.Deep.CutRange
namespace Go.Proofs.YtldknhganoiajaaGreatDoor
open Go.RowKit Go.Sort Go.Maps Go.Deep

/-- The first end of a face, by its number; the last one. -/
def fstN (all : List (List Int)) (i k x : Nat) : Nat := idxF all ((faceD all (i + k) x).take (i + 1))
def lstN (all : List (List Int)) (i k x : Nat) : Nat := idxF all ((faceD all (i + k) x).drop i)
theorem ends_in {l all : List (List Int)} (hg : Good l all) {i k x : Nat} (hx : x < (ofDim all ((i + k : Nat) : Int)).length) :
    ((faceD all (i + k) x).take (i + 1) ∈ all ∧ ((faceD all (i + k) x).take (i + 1)).length = i + 1) ∧ ((faceD all (i + k) x).drop i ∈ all ∧ ((faceD all (i + k) x).drop i).length = k + 1) := by
  obtain ⟨h1, h2⟩ := faceD_mem hx
  have l1 : ((faceD all (i + k) x).take (i + 1)).length = i + 1 := by rw [List.length_take, h2]; omega
  have l2 : ((faceD all (i + k) x).drop i).length = k + 1 := by rw [List.length_drop, h2]; omega
  exact ⟨⟨part_in hg h1 (List.take_sublist _ _) (fun e => by rw [e] at l1; simp at l1), l1⟩, part_in hg h1 (List.drop_sublist _ _) (fun e => by rw [e] at l2; simp at l2), l2⟩

/-- Three boxes: how many, and two rows of numbers. -/
structure EndsAt (B n : Nat) (W : World) (p0 p1 p2 g1 g2 : Nat) (f1 f2 : Nat → Nat) : Prop where
  c0 : W.cell? ⟨p0, 0, none⟩ = some (.int .i64 (n : Int))
  c1 : W.cell? ⟨p1, 0, none⟩ = some (.slice (some ⟨g1, 0, none⟩) n n)
  c2 : W.cell? ⟨p2, 0, none⟩ = some (.slice (some ⟨g2, 0, none⟩) n n)
  r1 : W.rowIs g1 3 n (fun x => .int .i64 (f1 x : Int))
  r2 : W.rowIs g2 3 n (fun x => .int .i64 (f2 x : Int))
  dis : g1 ≠ g2 ∧ g1 ≠ p0 ∧ g1 ≠ p1 ∧ g1 ≠ p2 ∧ g2 ≠ p0 ∧ g2 ≠ p1 ∧ g2 ≠ p2
  base : B ≤ g1 ∧ B ≤ g2
theorem EndsAt.below {B n : Nat} {W W' : World} {p0 p1 p2 g1 g2 : Nat} {f1 f2 : Nat → Nat} (h : EndsAt B n W p0 p1 p2 g1 g2 f1 f2) (hB : Below W.heap.size W W') : EndsAt B n W' p0 p1 p2 g1 g2 f1 f2 :=
  ⟨(hB.cell (p := ⟨p0, 0, none⟩) (cell_lt h.c0)).trans h.c0, (hB.cell (p := ⟨p1, 0, none⟩) (cell_lt h.c1)).trans h.c1, (hB.cell (p := ⟨p2, 0, none⟩) (cell_lt h.c2)).trans h.c2, h.r1.of_block (hB.block _ h.r1.lt), h.r2.of_block (hB.block _ h.r2.lt), h.dis, h.base⟩
theorem EndsAt.put {B n : Nat} {W : World} {p0 p1 p2 g1 g2 : Nat} {f1 f2 : Nat → Nat} (h : EndsAt B n W p0 p1 p2 g1 g2 f1 f2) (x a b : Nat) :
    EndsAt B n ((W.setCell ⟨g1, x, none⟩ (.int .i64 (a : Int))).setCell ⟨g2, x, none⟩ (.int .i64 (b : Int))) p0 p1 p2 g1 g2 (fun y => if y = x then a else f1 y) (fun y => if y = x then b else f2 y) := by
  obtain ⟨d1, d2, d3, d4, d5, d6, d7⟩ := h.dis
  have hgr1 := grown_word W ⟨g1, x, none⟩ (.int .i64 (a : Int))
  have hgr2 := grown_word (W.setCell ⟨g1, x, none⟩ (.int .i64 (a : Int))) ⟨g2, x, none⟩ (.int .i64 (b : Int))
  have hc : ∀ p v, p ≠ g1 → p ≠ g2 → W.cell? ⟨p, 0, none⟩ = some v → ((W.setCell ⟨g1, x, none⟩ (.int .i64 (a : Int))).setCell ⟨g2, x, none⟩ (.int .i64 (b : Int))).cell? ⟨p, 0, none⟩ = some v := fun p v n1 n2 hv => by
    have h1 : (W.setCell ⟨g1, x, none⟩ (.int .i64 (a : Int))).cell? ⟨p, 0, none⟩ = some v := (World.cell?_of_block (hgr1.block p (cell_lt hv) (fun e => n1 (by cases e; rfl)))).trans hv
    exact (World.cell?_of_block (hgr2.block p (cell_lt h1) (fun e => n2 (by cases e; rfl)))).trans h1
  refine ⟨hc _ _ d2.symm d5.symm h.c0, hc _ _ d3.symm d6.symm h.c1, hc _ _ d4.symm d7.symm h.c2, ?_, ?_, h.dis, h.base⟩
  · have h1 := h.r1.set x (.int .i64 (a : Int))
    have h2 := h1.of_block (hgr2.block g1 h1.lt (fun e => d1 (by cases e; rfl)))
    refine h2.congr (fun y _ => ?_)
    by_cases e : y = x
    · simp [e]
    · simp [e]
  · have h1 := h.r2.of_block (hgr1.block g2 h.r2.lt (fun e => d1 (by cases e; rfl)))
    have h2 := h1.set x (.int .i64 (b : Int))
    refine h2.congr (fun y _ => ?_)
    by_cases e : y = x
    · simp [e]
    · simp [e]

theorem made_at {V W : World} {n g : Nat} (e : V.heap.size = g) (hB : Below (V.heap.size + 1) (V.alloc (.cells (madeCells #[.int .i64 0] n) 3)) W) : W.rowIs g 3 n (fun _ => .int .i64 ((0 : Nat) : Int)) := by
  subst e
  have h := World.rowIs_made V (.int .i64 0) n 3
  exact h.of_block (hB.block _ (by omega))
theorem box_at {V W : World} {v : Value} {t : TypeId} {p : Nat} (e : V.heap.size = p) (hB : Below (V.heap.size + 1) (V.alloc (.cells #[v] t)) W) : W.cell? ⟨p, 0, none⟩ = some v := by
  subst e
  exact (hB.cell (p := ⟨V.heap.size, 0, none⟩) (by show V.heap.size < V.heap.size + 1; omega)).trans (box_new V v t).1
theorem bl0 (W : World) : Below W.heap.size W W.drew := (Below.refl _ _).drew
theorem bl1 (W : World) (a : Obj) : Below W.heap.size W (W.alloc a).drew := ((Below.refl _ _).alloc (Nat.le_refl _) _).drew
theorem bl2 (W : World) (a b : Obj) : Below W.heap.size W ((W.alloc a).alloc b).drew := (((Below.refl _ _).alloc (Nat.le_refl _) _).alloc (by simp) _).drew
theorem bl3 (W : World) (a b c : Obj) : Below W.heap.size W (((W.alloc a).alloc b).alloc c).drew := ((((Below.refl _ _).alloc (Nat.le_refl _) _).alloc (by simp) _).alloc (by simp; omega) _).drew
theorem bl4 (W : World) (a b c d : Obj) : Below W.heap.size W ((((W.alloc a).alloc b).alloc c).alloc d).drew := (((((Below.refl _ _).alloc (Nat.le_refl _) _).alloc (by simp) _).alloc (by simp; omega) _).alloc (by simp; omega) _).drew
theorem bl5 (W : World) (a b c d e : Obj) : Below W.heap.size W (((((W.alloc a).alloc b).alloc c).alloc d).alloc e).drew := ((((((Below.refl _ _).alloc (Nat.le_refl _) _).alloc (by simp) _).alloc (by simp; omega) _).alloc (by simp; omega) _).alloc (by simp; omega) _).drew
theorem up1 {V W : World} {o : Obj} (h : Below (V.alloc o).heap.size (V.alloc o) W) : Below (V.heap.size + 1) (V.alloc o) W := by rw [World.size_alloc] at h; exact h
theorem text_lo (f : List UInt8) (i : Nat) : (⟨f.toArray⟩ : ByteArray).extract 0 i = ⟨(f.take i).toArray⟩ := by
  apply ByteArray.ext
  simp
theorem text_hi (f : List UInt8) (i : Nat) : (⟨f.toArray⟩ : ByteArray).extract i f.length = ⟨(f.drop i).toArray⟩ := by
  apply ByteArray.ext
  simp
  exact List.take_of_length_le (by simp)
theorem txt_takes (x : List Int) (i : Nat) : (txt x).take i = txt (x.take i) := by unfold txt; rw [List.map_take]
theorem txt_drops (x : List Int) (i : Nat) : (txt x).drop i = txt (x.drop i) := by unfold txt; rw [List.map_drop]

theorem heap_alloc (W : World) (o : Obj) (k : Nat) : (W.alloc o).heap[k]? = if k = W.heap.size then some o else W.heap[k]? := by
  rw [show (W.alloc o).heap = W.heap.push o from rfl, Array.getElem?_push]
theorem heap_drew (W : World) (k : Nat) : W.drew.heap[k]? = W.heap[k]? := rfl
theorem ends_of {B n : Nat} {X W : World} {p0 p1 p2 : Nat} (g1 g2 : Nat) (c0 : W.heap[p0]? = some (.cells #[.int .i64 (n : Int)] 3 (0, 0))) (c1 : W.heap[p1]? = some (.cells #[.slice (some ⟨g1, 0, none⟩) n n] 39 (0, 0))) (c2 : W.heap[p2]? = some (.cells #[.slice (some ⟨g2, 0, none⟩) n n] 39 (0, 0)))
    (r1 : W.heap[g1]? = some (.cells (madeCells #[.int .i64 0] n) 3 (0, 0))) (r2 : W.heap[g2]? = some (.cells (madeCells #[.int .i64 0] n) 3 (0, 0))) (dis : g1 ≠ g2 ∧ g1 ≠ p0 ∧ g1 ≠ p1 ∧ g1 ≠ p2 ∧ g2 ≠ p0 ∧ g2 ≠ p1 ∧ g2 ≠ p2) (base : B ≤ g1 ∧ B ≤ g2) (hB : Below B X W) :
    ∃ q0 q1 q2 h1 h2, Value.pointer (some ⟨p0, 0, none⟩) = .pointer (some ⟨q0, 0, none⟩) ∧ Value.pointer (some ⟨p1, 0, none⟩) = .pointer (some ⟨q1, 0, none⟩) ∧ Value.pointer (some ⟨p2, 0, none⟩) = .pointer (some ⟨q2, 0, none⟩) ∧ Hid (EndsAt B n W q0 q1 q2 h1 h2 (fun _ => 0) (fun _ => 0) ∧ Below B X W) := by
  have hm : ∀ g, W.heap[g]? = some (.cells (madeCells #[.int .i64 0] n) 3 (0, 0)) → W.rowIs g 3 n (fun _ => .int .i64 ((0 : Nat) : Int)) := fun g h => ⟨_, h, by simp [madeCells], fun i hi => by simp [madeCells, hi, Nat.mod_one]⟩
  exact ⟨p0, p1, p2, g1, g2, rfl, rfl, rfl, ⟨(cell_of_block c0).1, (cell_of_block c1).1, (cell_of_block c2).1, hm _ r1, hm _ r2, dis, base⟩, hB⟩

theorem five_at (V : World) (o0 o1 o2 o3 o4 : Obj) (j : Nat) (hj : j < 5) : (((((V.alloc o0).alloc o1).alloc o2).alloc o3).alloc o4).drew.heap[V.heap.size + j]? = [o0, o1, o2, o3, o4][j]? := by
  rw [heap_drew, heap_alloc, heap_alloc, heap_alloc, heap_alloc, heap_alloc]
  simp only [World.size_alloc]
  rcases j with _ | _ | _ | _ | _ | j
  · rw [if_neg (by omega), if_neg (by omega), if_neg (by omega), if_neg (by omega), if_pos (by omega)]; rfl
  · rw [if_neg (by omega), if_neg (by omega), if_neg (by omega), if_pos (by omega)]; rfl
  · rw [if_neg (by omega), if_neg (by omega), if_pos (by omega)]; rfl
  · rw [if_neg (by omega), if_pos (by omega)]; rfl
  · rw [if_pos (by omega)]; rfl
  · omega
theorem ends_five {n : Nat} {X V : World} {o0 o1 o2 o3 o4 : Obj} {p1 p2 : Nat} (a b c d : Nat) (h0 : o0 = .cells #[.int .i64 (n : Int)] 3 (0, 0)) (hp1 : p1 = V.heap.size + a) (hp2 : p2 = V.heap.size + b)
    (ha : [o0, o1, o2, o3, o4][a]? = some (.cells #[.slice (some ⟨V.heap.size + c, 0, none⟩) n n] 39 (0, 0))) (hb : [o0, o1, o2, o3, o4][b]? = some (.cells #[.slice (some ⟨V.heap.size + d, 0, none⟩) n n] 39 (0, 0)))
    (hc : [o0, o1, o2, o3, o4][c]? = some (.cells (madeCells #[.int .i64 0] n) 3 (0, 0))) (hd : [o0, o1, o2, o3, o4][d]? = some (.cells (madeCells #[.int .i64 0] n) 3 (0, 0)))
    (hlt : a < 5 ∧ b < 5 ∧ c < 5 ∧ d < 5 ∧ c ≠ d ∧ c ≠ 0 ∧ c ≠ a ∧ c ≠ b ∧ d ≠ 0 ∧ d ≠ a ∧ d ≠ b) (hV : Below X.heap.size X V) :
    ∃ q0 q1 q2 h1 h2, Value.pointer (some ⟨V.heap.size, 0, none⟩) = .pointer (some ⟨q0, 0, none⟩) ∧ Value.pointer (some ⟨p1, 0, none⟩) = .pointer (some ⟨q1, 0, none⟩) ∧ Value.pointer (some ⟨p2, 0, none⟩) = .pointer (some ⟨q2, 0, none⟩) ∧ Hid (EndsAt X.heap.size n (((((V.alloc o0).alloc o1).alloc o2).alloc o3).alloc o4).drew q0 q1 q2 h1 h2 (fun _ => 0) (fun _ => 0) ∧ Below X.heap.size X (((((V.alloc o0).alloc o1).alloc o2).alloc o3).alloc o4).drew) := by
  subst hp1 hp2
  obtain ⟨l1, l2, l3, l4, n1, n2, n3, n4, n5, n6, n7⟩ := hlt
  have hs := hV.size
  refine ends_of (V.heap.size + c) (V.heap.size + d) ?_ ?_ ?_ ?_ ?_ ⟨by omega, by omega, by omega, by omega, by omega, by omega, by omega⟩ ⟨by omega, by omega⟩ (hV.trans ((bl5 _ _ _ _ _ _).mono hV.size))
  · rw [← h0]; exact five_at V o0 o1 o2 o3 o4 0 (by omega)
  · rw [five_at V o0 o1 o2 o3 o4 a l1]; exact ha
  · rw [five_at V o0 o1 o2 o3 o4 b l2]; exact hb
  · rw [five_at V o0 o1 o2 o3 o4 c l3]; exact hc
  · rw [five_at V o0 o1 o2 o3 o4 d l4]; exact hd

/-- What cup answers: a function with three boxes. -/
def CupSaysF (all : List (List Int)) (i k : Nat) (w : World) (e : Ending) (w' : World) : Prop :=
  ∃ p0 p1 p2 g1 g2, e = .returned (.func (.func 63) #[] #[.pointer (some ⟨p0, 0, none⟩), .pointer (some ⟨p1, 0, none⟩), .pointer (some ⟨p2, 0, none⟩)]) ∧ EndsAt w.heap.size (ofDim all ((i + k : Nat) : Int)).length w' p0 p1 p2 g1 g2 (fun x => if x < (ofDim all ((i + k : Nat) : Int)).length then fstN all i k x else 0) (fun x => if x < (ofDim all ((i + k : Nat) : Int)).length then lstN all i k x else 0) ∧ Below w.heap.size w w'

set_option maxRecDepth 100000 in
set_option maxHeartbeats 8000000 in
theorem cup_ {l all : List (List Int)} (hg : Good l all) (h60 : all.length ≤ 60) (v : Value) (i k : Nat) (hi : i ≤ 100) (hk : k ≤ 100) (w : World) (h : ShapeAt w v all) :
    Calls Tryz.prog 38 #[v, .int .i64 (i : Int), .int .i64 (k : Int)] w fun e w' => CupSaysF all i k w e w' := by
  have h7 : topN all ≤ 7 := topN_upto hg.short
  have HG := Hid.mk' hg
  have hn6 : (ofDim all ((i + k : Nat) : Int)).length ≤ 60 := Nat.le_trans (ofDim_length _ _) h60
  unfold CupSaysF
  have hh := h
  obtain ⟨vF, g, L, rfl, hF, hL, hN⟩ := h
  obtain ⟨aF, cF, rfl, hx⟩ := hF.open_
  rw [facesT_len] at hx hh ⊢
  have hB1 : Below w.heap.size w (w.alloc (.cells #[.slice aF (topN all) cF, .map (some g)] 46)) := (Below.refl _ w).alloc (Nat.le_refl _) _
  have q1 := cells_two w (.slice aF (topN all) cF) (.map (some g)) 46
  obtain ⟨W1, hW1⟩ : ∃ W1, w.alloc (.cells #[.slice aF (topN all) cF, .map (some g)] 46) = W1 := ⟨_, rfl⟩
  have hz1 : W1.heap.size = w.heap.size + 1 := by rw [← hW1]; simp
  have hbx : w.heap.size < W1.heap.size := by omega
  have c0 := q1.1.1
  have c1 := q1.1.2
  rw [hW1] at hB1 c0 c1
  obtain ⟨T, hT⟩ : ∃ T, topN all = T := ⟨_, rfl⟩
  have HT := Hid.mk' hT
  have HW1 := Hid.mk' hW1
  rw [hT] at h7 hx hh c0 HW1 ⊢
  have HS : Hid (∀ V, Below W1.heap.size W1 V → ShapeAt V (.agg #[.slice aF T cF, .map (some g)]) all ∧ V.cell? ⟨w.heap.size, 0, none⟩ = some (.slice aF T cF) ∧ V.cell? ⟨w.heap.size, 1, none⟩ = some (.map (some g)) ∧ NumAt V g all L ∧ TextRows V (.slice aF T cF) (facesT all)) := fun V hV => by
    have hw : Below w.heap.size w V := hB1.trans (hV.mono hB1.size)
    have hFF := hF.below hw
    rw [facesT_len, hT] at hFF
    exact ⟨hh.below hw, (hV.cell (p := ⟨w.heap.size, 0, none⟩) hbx).trans c0, (hV.cell (p := ⟨w.heap.size, 1, none⟩) hbx).trans c1, hN.below hw, hFF⟩
  have hct : Calls Tryz.prog 50 #[.agg #[.slice aF T cF, .map (some g)], .int .i64 ((i : Int) + (k : Int))] W1 (fun e w' => e = .returned (.int .i64 ((ofDim all ((i + k : Nat) : Int)).length : Int)) ∧ Below W1.heap.size W1 w') :=
    count_ _ all (i + k) (by omega) (by omega) W1 (HS.out W1 (Below.refl _ _)).1
  obtain ⟨n, hn⟩ : ∃ n, (ofDim all ((i + k : Nat) : Int)).length = n := ⟨_, rfl⟩
  have HN := Hid.mk' hn
  rw [hn] at hn6 hct ⊢
  have HB1 := Hid.mk' hB1
  have HLL := Hid.mk' hL
  have HZ1 := Hid.mk' hz1
  clear hx hh hF hN hL q1 hW1 hT hB1 hg hn c0 c1 hz1 hbx
  go_enter Tryz.func38, Tryz.ntmps38
  go_upto_region 1 with fail
  rw [HW1.out]
  have b0 := (HS.out W1 (Below.refl _ _)).2.1
  have b1 := (HS.out W1 (Below.refl _ _)).2.2.1
  go_wp2_with fail
  refine hct.mono ?_
  clear hct
  rintro e V1 ⟨rfl, hV1⟩
  go_upto_region 2 with fail
  have HV1 := Hid.mk' hV1
  have hmk : ∀ V : World, (Instr.makeSlice 39 (.int .i64 (n : Int)) (.int .i64 (n : Int))).run Tryz.prog V = .ok (.slice (some ⟨V.heap.size, 0, none⟩) n n) (V.alloc (.cells (madeCells #[.int .i64 0] n) 3)) := fun V => run_make_row' (P := Tryz.prog) 39 3 (.int .i64 0) 8 Tryz.underlying39 Tryz.info3 rfl .i64 .i64 n (by omega) (by omega) V
  clear hV1
  go_cut [7, 8, 9] from 17 to 20 (fun s7 s8 s9 wx => ∃ p0 p1 p2 g1 g2, s7 = .pointer (some ⟨p0, 0, none⟩) ∧ s8 = .pointer (some ⟨p1, 0, none⟩) ∧ s9 = .pointer (some ⟨p2, 0, none⟩) ∧ Hid (EndsAt W1.heap.size n wx p0 p1 p2 g1 g2 (fun _ => 0) (fun _ => 0) ∧ Below W1.heap.size W1 wx))
  case first =>
    go_region
    all_goals go_wp2_with fail
    all_goals go_meet
    all_goals (
      first
      | exact ends_five 1 2 3 4 rfl rfl rfl rfl rfl rfl rfl ⟨by decide, by decide, by decide, by decide, by decide, by decide, by decide, by decide, by decide, by decide, by decide⟩ HV1.out
      | exact ends_five 1 2 4 3 rfl rfl rfl rfl rfl rfl rfl ⟨by decide, by decide, by decide, by decide, by decide, by decide, by decide, by decide, by decide, by decide, by decide⟩ HV1.out
      | exact ends_five 1 3 2 4 rfl rfl rfl rfl rfl rfl rfl ⟨by decide, by decide, by decide, by decide, by decide, by decide, by decide, by decide, by decide, by decide, by decide⟩ HV1.out
      | exact ends_five 1 3 4 2 rfl rfl rfl rfl rfl rfl rfl ⟨by decide, by decide, by decide, by decide, by decide, by decide, by decide, by decide, by decide, by decide, by decide⟩ HV1.out
      | exact ends_five 1 4 2 3 rfl rfl rfl rfl rfl rfl rfl ⟨by decide, by decide, by decide, by decide, by decide, by decide, by decide, by decide, by decide, by decide, by decide⟩ HV1.out
      | exact ends_five 1 4 3 2 rfl rfl rfl rfl rfl rfl rfl ⟨by decide, by decide, by decide, by decide, by decide, by decide, by decide, by decide, by decide, by decide, by decide⟩ HV1.out
      | exact ends_five 2 1 3 4 rfl rfl rfl rfl rfl rfl rfl ⟨by decide, by decide, by decide, by decide, by decide, by decide, by decide, by decide, by decide, by decide, by decide⟩ HV1.out
      | exact ends_five 2 1 4 3 rfl rfl rfl rfl rfl rfl rfl ⟨by decide, by decide, by decide, by decide, by decide, by decide, by decide, by decide, by decide, by decide, by decide⟩ HV1.out
      | exact ends_five 2 3 1 4 rfl rfl rfl rfl rfl rfl rfl ⟨by decide, by decide, by decide, by decide, by decide, by decide, by decide, by decide, by decide, by decide, by decide⟩ HV1.out
      | exact ends_five 2 3 4 1 rfl rfl rfl rfl rfl rfl rfl ⟨by decide, by decide, by decide, by decide, by decide, by decide, by decide, by decide, by decide, by decide, by decide⟩ HV1.out
      | exact ends_five 2 4 1 3 rfl rfl rfl rfl rfl rfl rfl ⟨by decide, by decide, by decide, by decide, by decide, by decide, by decide, by decide, by decide, by decide, by decide⟩ HV1.out
      | exact ends_five 2 4 3 1 rfl rfl rfl rfl rfl rfl rfl ⟨by decide, by decide, by decide, by decide, by decide, by decide, by decide, by decide, by decide, by decide, by decide⟩ HV1.out
      | exact ends_five 3 1 2 4 rfl rfl rfl rfl rfl rfl rfl ⟨by decide, by decide, by decide, by decide, by decide, by decide, by decide, by decide, by decide, by decide, by decide⟩ HV1.out
      | exact ends_five 3 1 4 2 rfl rfl rfl rfl rfl rfl rfl ⟨by decide, by decide, by decide, by decide, by decide, by decide, by decide, by decide, by decide, by decide, by decide⟩ HV1.out
      | exact ends_five 3 2 1 4 rfl rfl rfl rfl rfl rfl rfl ⟨by decide, by decide, by decide, by decide, by decide, by decide, by decide, by decide, by decide, by decide, by decide⟩ HV1.out
      | exact ends_five 3 2 4 1 rfl rfl rfl rfl rfl rfl rfl ⟨by decide, by decide, by decide, by decide, by decide, by decide, by decide, by decide, by decide, by decide, by decide⟩ HV1.out
      | exact ends_five 3 4 1 2 rfl rfl rfl rfl rfl rfl rfl ⟨by decide, by decide, by decide, by decide, by decide, by decide, by decide, by decide, by decide, by decide, by decide⟩ HV1.out
      | exact ends_five 3 4 2 1 rfl rfl rfl rfl rfl rfl rfl ⟨by decide, by decide, by decide, by decide, by decide, by decide, by decide, by decide, by decide, by decide, by decide⟩ HV1.out
      | exact ends_five 4 1 2 3 rfl rfl rfl rfl rfl rfl rfl ⟨by decide, by decide, by decide, by decide, by decide, by decide, by decide, by decide, by decide, by decide, by decide⟩ HV1.out
      | exact ends_five 4 1 3 2 rfl rfl rfl rfl rfl rfl rfl ⟨by decide, by decide, by decide, by decide, by decide, by decide, by decide, by decide, by decide, by decide, by decide⟩ HV1.out
      | exact ends_five 4 2 1 3 rfl rfl rfl rfl rfl rfl rfl ⟨by decide, by decide, by decide, by decide, by decide, by decide, by decide, by decide, by decide, by decide, by decide⟩ HV1.out
      | exact ends_five 4 2 3 1 rfl rfl rfl rfl rfl rfl rfl ⟨by decide, by decide, by decide, by decide, by decide, by decide, by decide, by decide, by decide, by decide, by decide⟩ HV1.out
      | exact ends_five 4 3 1 2 rfl rfl rfl rfl rfl rfl rfl ⟨by decide, by decide, by decide, by decide, by decide, by decide, by decide, by decide, by decide, by decide, by decide⟩ HV1.out
      | exact ends_five 4 3 2 1 rfl rfl rfl rfl rfl rfl rfl ⟨by decide, by decide, by decide, by decide, by decide, by decide, by decide, by decide, by decide, by decide, by decide⟩ HV1.out)
  obtain ⟨p0, p1, p2, g1, g2, rfl, rfl, rfl, HE⟩ := hcut
  clear b0 b1 HV1 hmk
  have e0 := HE.out.1.c0
  go_wp2_with fail
  go_loopw [22] (fun p W => ∃ (x : Nat), x ≤ n ∧ p = .int .i64 (x : Int) ∧ Hid (EndsAt W1.heap.size n W p0 p1 p2 g1 g2 (fun y => if y < x then fstN all i k y else 0) (fun y => if y < x then lstN all i k y else 0) ∧ Below W1.heap.size W1 W)) (fun p _ => n - (intOf p).toNat)
  case atStart => exact ⟨0, by omega, rfl, by simpa using HE⟩
  case round =>
    obtain ⟨x, hx, rfl, HR⟩ := hrel
    clear HE e0
    by_cases hlt : x < n
    · have hqf : x < (ofDim all ((i + k : Nat) : Int)).length := by rw [HN.out]; exact hlt
      have hdT : i + k < T := by
        rcases Nat.lt_or_ge (i + k) T with h | h
        · exact h
        · rw [ofDim_above (by rw [HT.out]; exact h)] at hqf; simp at hqf
      obtain ⟨⟨m1, l1⟩, m2, l2⟩ := ends_in HG.out hqf
      obtain ⟨hxm, hxl⟩ := faceD_mem hqf
      have HF1 : Hid (fstN all i k x = idxF all ((faceD all (i + k) x).take (i + 1))) := rfl
      have HF2 : Hid (lstN all i k x = idxF all ((faceD all (i + k) x).drop i)) := rfl
      obtain ⟨y, hy⟩ : ∃ y, faceD all (i + k) x = y := ⟨_, rfl⟩
      have HY := Hid.mk' hy
      rw [hy] at m1 m2 l1 l2 hxm hxl HF1 HF2
      have HRS := Hid.mk' (HS.out wr HR.out.2)
      obtain ⟨a', c', e', hcs⟩ := HRS.out.2.2.2.2.open_
      rw [facesT_len, HT.out] at e' hcs
      cases e'
      obtain ⟨bF, oF, rfl, -, hcs2⟩ := hcs (by omega)
      obtain ⟨a2, c2, t1, hcs3⟩ := hcs2 (i + k) hdT
      rw [facesT_get (by rw [HT.out]; exact hdT), List.length_map, HN.out] at t1 hcs3
      obtain ⟨b2, o2, rfl, -, hcs4⟩ := hcs3 (by omega)
      have t2 := hcs4 x hlt
      rw [show ((ofDim all ((i + k : Nat) : Int)).map txt)[x]?.getD [] = txt y by rw [← hy]; unfold faceD; rw [List.getElem?_map, List.getElem?_eq_getElem hqf]; rfl] at t2
      obtain ⟨sx, hsx⟩ : ∃ sx : ByteArray, (⟨(txt y).toArray⟩ : ByteArray) = sx := ⟨_, rfl⟩
      have hsz : sx.size = i + k + 1 := by rw [← hsx, ← hxl]; simp [ByteArray.size, txt]
      have hes : encStr (txt y) = .string sx := by rw [← hsx, encStr]
      rw [hes] at t2
      have hdw : Below wr.heap.size wr wr.drew := (Below.refl _ wr).drew
      have HJD := Hid.mk' (And.intro (HR.out.1.below hdw) (HR.out.2.trans (hdw.mono HR.out.2.size)))
      obtain ⟨D, d1, d2⟩ := (HS.out wr.drew HJD.out.2).2.2.2.1
      obtain ⟨cn1, hrun1, hat1, -⟩ := d1.lookup_int (t := 44) law_string Tryz.underlying44 Tryz.underlying3 (zero_int _) (key_of (txt (y.take (i + 1))) (by rw [txt_len, l1]; unfold maxLen; omega))
      rw [d2 _ (HLL.out _ m1)] at hat1
      cases hat1
      obtain ⟨cn2, hrun2, hat2, -⟩ := d1.lookup_int (t := 44) law_string Tryz.underlying44 Tryz.underlying3 (zero_int _) (key_of (txt (y.drop i)) (by rw [txt_len, l2]; unfold maxLen; omega))
      rw [d2 _ (HLL.out _ m2)] at hat2
      cases hat2
      have hk1 : encStr (txt (y.take (i + 1))) = .string (sx.extract 0 (i + 1)) := by rw [← hsx, text_lo, txt_takes, encStr]
      have hk2 : encStr (txt (y.drop i)) = .string (sx.extract i (i + k + 1)) := by
        have := text_hi (txt y) i
        rw [txt_len, hxl] at this
        rw [← hsx, this, txt_drops, encStr]
      rw [hk1] at hrun1
      rw [hk2] at hrun2
      rw [← HF1.out] at hrun1
      rw [← HF2.out] at hrun2
      obtain ⟨q1, hq1⟩ : ∃ q1, fstN all i k x = q1 := ⟨_, rfl⟩
      obtain ⟨q2, hq2⟩ : ∃ q2, lstN all i k x = q2 := ⟨_, rfl⟩
      have HQ := Hid.mk' (And.intro hq1 hq2)
      rw [hq1] at hrun1
      rw [hq2] at hrun2
      have b0 := HRS.out.2.1
      have b1 := HRS.out.2.2.1
      have z3 : (0 : Int) ≤ (i : Int) + (k : Int) := by omega
      have z4 : (i : Int) + (k : Int) < (T : Int) := by omega
      have z5 : ((i : Int) + (k : Int)).toNat = i + k := by omega
      have z6 : (i : Int) + 1 ≤ ((i + k + 1 : Nat) : Int) := by omega
      have z8 : (0 : Int) ≤ (i : Int) + 1 := by omega
      have z9 : ((i : Int) + 1).toNat = i + 1 := by omega
      have z10 : i + 1 ≤ i + k + 1 := by omega
      have z11 : i ≤ i + k + 1 := by omega
      have e1 := HR.out.1.c1
      have e2 := HR.out.1.c2
      have f1 := HR.out.1.r1.cell hlt
      have f2 := HR.out.1.r2.cell hlt
      have g1f := HR.out.1.r1.frozen x
      have g2f := HR.out.1.r2.frozen x
      rw [if_neg (Nat.lt_irrefl _)] at f1 f2
      have HE : Hid (EndsAt W1.heap.size n ((wr.setCell ⟨g1, x, none⟩ (.int .i64 (q1 : Int))).setCell ⟨g2, x, none⟩ (.int .i64 (q2 : Int))).drew p0 p1 p2 g1 g2 (fun y => if y < x + 1 then fstN all i k y else 0) (fun y => if y < x + 1 then lstN all i k y else 0) ∧ Below W1.heap.size W1 ((wr.setCell ⟨g1, x, none⟩ (.int .i64 (q1 : Int))).setCell ⟨g2, x, none⟩ (.int .i64 (q2 : Int))).drew) := by
        refine ⟨?_, ((HR.out.2.setCell (p := ⟨g1, x, none⟩) HR.out.1.base.1 _).setCell (p := ⟨g2, x, none⟩) HR.out.1.base.2 _).drew⟩
        have h1 := (HR.out.1.put x q1 q2).below (bl0 _)
        have hf : ∀ (F : Nat → Nat) (q : Nat), F x = q → (fun y => if y = x then q else if y < x then F y else 0) = (fun y => if y < x + 1 then F y else 0) := fun F q hF => by
          funext y
          by_cases e : y = x
          · subst e; simp [hF]
          · by_cases e2 : y < x
            · simp [e, e2]; intro; omega
            · simp [e, e2]; intro; omega
        rw [hf _ q1 HQ.out.1, hf _ q2 HQ.out.2] at h1
        exact h1
      have hgr := grown_word wr ⟨g1, x, none⟩ (.int .i64 (q1 : Int))
      have hB9 : Below W1.heap.size W1 (wr.setCell ⟨g1, x, none⟩ (.int .i64 (q1 : Int))).drew := (HR.out.2.setCell (p := ⟨g1, x, none⟩) HR.out.1.base.1 _).drew
      obtain ⟨D9, d91, d92⟩ := (HS.out _ hB9).2.2.2.1
      obtain ⟨cn9, hrun9, hat9, -⟩ := d91.lookup_int (t := 44) law_string Tryz.underlying44 Tryz.underlying3 (zero_int _) (key_of (txt (y.drop i)) (by rw [txt_len, l2]; unfold maxLen; omega))
      rw [d92 _ (HLL.out _ m2)] at hat9
      cases hat9
      rw [hk2, ← HF2.out, hq2] at hrun9
      have e29 : (wr.setCell ⟨g1, x, none⟩ (.int .i64 (q1 : Int))).cell? ⟨p2, 0, none⟩ = some (.slice (some ⟨g2, 0, none⟩) n n) := (World.cell?_of_block (hgr.block p2 (cell_lt e2) (fun e => HR.out.1.dis.2.2.2.1 (by cases e; rfl)))).trans e2
      have b19 : (wr.setCell ⟨g1, x, none⟩ (.int .i64 (q1 : Int))).cell? ⟨w.heap.size, 1, none⟩ = some (.map (some g)) := (HS.out _ hB9).2.2.1
      have f29 : (wr.setCell ⟨g1, x, none⟩ (.int .i64 (q1 : Int))).cell? ⟨g2, x, none⟩ = some (.int .i64 ((0 : Nat) : Int)) := (World.cell?_of_block (hgr.block g2 (cell_lt f2) (fun e => HR.out.1.dis.1 (by cases e; rfl)))).trans f2
      have g29 : (wr.setCell ⟨g1, x, none⟩ (.int .i64 (q1 : Int))).frozen? ⟨g2, x, none⟩ = false := (World.frozen?_of_block (hgr.block g2 (cell_lt f2) (fun e => HR.out.1.dis.1 (by cases e; rfl)))).trans g2f
      clear d91 d92 hB9 hgr
      clear hcs hcs2 hcs3 hcs4 hsx hes hy m1 m2 l1 l2 hxm hxl d1 d2 hk1 hk2 hq1 hq2 hdw
      go_wp2_with fail
      go_region
      go_wp2_with fail
      go_roundw
      case rel => exact ⟨x + 1, by omega, by go_num, HE.out⟩
      case measure => simp [intOf]; omega
    · have hxe : x = n := by omega
      subst hxe
      have HE : Hid (EndsAt w.heap.size x wr p0 p1 p2 g1 g2 (fun y => if y < x then fstN all i k y else 0) (fun y => if y < x then lstN all i k y else 0) ∧ Below w.heap.size w wr) := by
        have hz := HZ1.out
        have hq := HR.out.1
        exact ⟨⟨hq.c0, hq.c1, hq.c2, hq.r1, hq.r2, hq.dis, by have := hq.base; exact ⟨by omega, by omega⟩⟩, HB1.out.trans (HR.out.2.mono HB1.out.size)⟩
      go_wp2_with fail
      go_ret
      exact ⟨_, _, _, _, _, rfl, HE.out.1, HE.out.2⟩
end Go.Proofs.YtldknhganoiajaaGreatDoor
