/- The opened cosets at first. -/
import Derived.Test.YthcgabghkbgccaaDoorGrpFill
namespace Go.Proofs.YthcgabghkbgccaaDoor
open Go.RowKit Go.Sort

/-- A table of one row that leads nowhere. -/
structure BlankAt (B n : Nat) (w w' : World) (G cG g : Nat) : Prop where
  own : w'.ownsRow B 27 1 (.slice (some ⟨G, 0, none⟩) 1 cG) 1 [.slice (some ⟨g, 0, none⟩) (2 * n) (2 * n)]
  row : w'.rowIs g 3 (2 * n) (fun _ => .int .i64 (-1))
  ne : G ≠ g
  low : B ≤ g
  below : Below B w w'

theorem froz_new (w : World) (cs : Array Value) (t : TypeId) (i : Nat) : (w.alloc (.cells cs t)).frozen? ⟨w.heap.size, i, none⟩ = false := by
  have h : (w.alloc (.cells cs t)).heap[w.heap.size]? = some (.cells cs t) := Array.getElem?_push_size
  simp only [World.frozen?, h]
  simp
theorem froz_old (w : World) (o : Obj) {p : Addr} (hp : p.block < w.heap.size) : (w.alloc o).frozen? p = w.frozen? p := World.frozen?_of_block (Below.heap_alloc w o p.block hp)

set_option maxRecDepth 100000 in
set_option maxHeartbeats 2000000 in
theorem blank_one (n : Nat) (w : World) (hn : n ≤ 12) :
    Calls Tryd.prog 31 #[.int .i64 1, .int .i64 (n : Int)] w fun e w' => ∃ G cG g, e = .returned (.agg #[.slice (some ⟨G, 0, none⟩) 1 cG]) ∧ BlankAt w.heap.size n w w' G cG g := by
  obtain ⟨W1, hW1⟩ : ∃ W1, (w.alloc (.cells #[.slice none 0 0] 64)).alloc (.cells #[.slice none 0 0] 64) = W1 := ⟨_, rfl⟩
  have hB1 : Below w.heap.size w W1 := by rw [← hW1]; exact ((Below.refl _ w).alloc (Nat.le_refl _) _).alloc (by simp) _
  have hs1 : W1.heap.size = w.heap.size + 2 := by rw [← hW1]; simp
  have q0 : W1.cell? ⟨w.heap.size, 0, none⟩ = some (.slice none 0 0) := by
    rw [← hW1, World.cell?_alloc_lt _ _ ⟨w.heap.size, 0, none⟩ (by simp)]
    have := cells_new w [.slice none 0 0] 64 0 _ rfl
    rwa [Addr.add_lit, Nat.zero_add] at this
  have q1 : W1.cell? ⟨w.heap.size + 1, 0, none⟩ = some (.slice none 0 0) := by
    have := cells_new (w.alloc (.cells #[.slice none 0 0] 64)) [.slice none 0 0] 64 0 _ rfl
    rw [Addr.add_lit, Nat.zero_add, World.size_alloc] at this
    rw [← hW1]
    exact this
  have f0 : W1.frozen? ⟨w.heap.size, 0, none⟩ = false := by rw [← hW1, froz_old _ _ (by simp)]; exact froz_new w _ _ 0
  have f1 : W1.frozen? ⟨w.heap.size + 1, 0, none⟩ = false := by
    have := froz_new (w.alloc (.cells #[.slice none 0 0] 64)) #[.slice none 0 0] 64 0
    rw [World.size_alloc] at this
    rw [← hW1]; exact this
  have had := addRow_ w.heap.size (w.heap.size + 1) n 0 (.slice none 0 0) [] W1 q1 f1 (World.ownsRow_nil _ _ _ _) (by intro h; cases h) (by omega) (by omega) hn
  have HW1 : Hid ((w.alloc (.cells #[.slice none 0 0] 64)).alloc (.cells #[.slice none 0 0] 64) = W1) := hW1
  have HB1 := Hid.mk' hB1
  have HS1 := Hid.mk' hs1
  obtain ⟨p, hp⟩ : ∃ p, w.heap.size = p := ⟨_, rfl⟩
  have HP : Hid (w.heap.size = p) := hp
  have HPS : Hid (∀ V v1 g, RowMore w.heap.size (w.heap.size + 1) n 0 (.slice none 0 0) [] W1 V v1 g → ∃ G cG, v1 = .slice (some ⟨G, 0, none⟩) 1 cG ∧ V.cell? ⟨w.heap.size + 1, 0, none⟩ = some v1 ∧ (V.cell? ⟨w.heap.size, 0, none⟩ = some (.slice none 0 0) ∧ V.frozen? ⟨w.heap.size, 0, none⟩ = false) ∧ BlankAt w.heap.size n w (V.setCell ⟨w.heap.size, 0, none⟩ (.slice (some ⟨G, 0, none⟩) 1 cG)) G cG g) := fun V v1 g hm => by
    obtain ⟨G, cG, e1, hG1, hG2⟩ := hm.own.form (by omega)
    have hnew := hm.new
    have hGb : W1.heap.size ≤ G ∧ G ≠ g := by
      rcases hm.blk with e | ⟨b, e, k1, k2⟩
      · rw [e1] at e; cases e
      · rw [e1] at e; have := Option.some.inj e; subst this; exact ⟨k1, k2⟩
    have eb := hm.keep w.heap.size (by omega) (by omega) (by intro h; cases h)
    refine ⟨G, cG, e1, hm.cell, ⟨(World.cell?_of_block (a := ⟨w.heap.size, 0, none⟩) eb).trans q0, (World.frozen?_of_block (a := ⟨w.heap.size, 0, none⟩) eb).trans f0⟩, ⟨?_, ?_, hGb.2, by omega, ?_⟩⟩
    · have := hm.own
      rw [e1] at this
      exact this.kept (grown_at V ⟨w.heap.size, 0, none⟩ _) (.inr fun e => by have h9 : G = w.heap.size := Option.some.inj e; omega)
    · exact hm.row.of_block (Below.heap_setCell V ⟨w.heap.size, 0, none⟩ _ g (Nat.ne_of_gt (show w.heap.size < g by omega)))
    · refine ⟨hm.os.trans hB1.os, hm.tape.trans hB1.tape, hm.output.trans hB1.output, Nat.le_trans (show w.heap.size ≤ W1.heap.size by omega) (Nat.le_trans hm.size (by simp)), fun b hb => ?_⟩
      have hb' : b < w.heap.size := hb
      have k1 := Below.heap_setCell V ⟨w.heap.size, 0, none⟩ (.slice (some ⟨G, 0, none⟩) 1 cG) b (Nat.ne_of_lt hb')
      have k2 := hm.keep b (by omega) (by omega) (by intro h; cases h)
      exact (k1.trans k2).trans (hB1.block b hb')
  rw [hp] at HPS had
  clear hW1 hp q0 q1 f0 f1 hs1 hB1
  go_enter Tryd.func31, Tryd.ntmps31
  go_wp2_with fail
  rw [HW1.out, HP.out]
  go_loopw [7] (fun k W => (k = .int .i64 0 ∧ W = W1) ∨ (k = .int .i64 1 ∧ Hid (∃ v1 g, RowMore p (p + 1) n 0 (.slice none 0 0) [] W1 W v1 g))) (fun k _ => 1 - (intOf k).toNat)
  case atStart => exact .inl ⟨rfl, rfl⟩
  case round =>
    rcases hrel with ⟨rfl, rfl⟩ | ⟨rfl, HK⟩
    · go_wp2_with (first
        | (go_at_call 38; refine had.mono ?_; rintro e V ⟨rfl, hm⟩; have H2 := Hid.mk' hm; clear hm had)
        | fail)
      go_roundw
      case rel => exact .inr ⟨by go_num, H2.out⟩
      case measure => simp [intOf]
    · obtain ⟨v1, g, hm⟩ := HK.out
      obtain ⟨G, cG, rfl, c1, ⟨c0, f0⟩, hb⟩ := HPS.out wr v1 g hm
      have HB := Hid.mk' hb
      clear hm hb
      go_wp2_with fail
      have c9 : (wr.setCell ⟨p, 0, none⟩ (.slice (some ⟨G, 0, none⟩) 1 cG)).cell? ⟨p, 0, none⟩ = some (.slice (some ⟨G, 0, none⟩) 1 cG) := World.cell?_setCell_same' wr _ _ (by rw [c0]; rfl)
      refine bodyPost_ret (v := .agg #[.slice (some ⟨G, 0, none⟩) 1 cG]) ?_ rfl ⟨G, cG, g, rfl, by rw [HP.out]; exact HB.out⟩
      simp [results, Tryd.f31, go_sem, c9]

theorem begin_op {B n G cG g : Nat} {w w1 : World} (h : BlankAt B n w w1 G cG g) (hB : B ≤ w1.heap.size) : OpAt B (fun _ => False) (w1.heap.size + 1) n ((w1.alloc (.cells #[.int .i64 0] 3)).alloc (.cells #[.slice (some ⟨G, 0, none⟩) 1 cG, .int .i64 (n : Int), .slice (some ⟨w1.heap.size, 0, none⟩) 1 1] 67)) (beginP n) := by
  obtain ⟨W2, hW2⟩ : ∃ W2, w1.alloc (.cells #[.int .i64 0] 3) = W2 := ⟨_, rfl⟩
  have hs2 : W2.heap.size = w1.heap.size + 1 := by rw [← hW2]; simp
  have hGs := h.own.lt G rfl
  have hgs := h.row.lt
  have hnew := cells_new W2 [.slice (some ⟨G, 0, none⟩) 1 cG, .int .i64 (n : Int), .slice (some ⟨w1.heap.size, 0, none⟩) 1 1] 67
  have hfz := fun i => froz_new W2 #[.slice (some ⟨G, 0, none⟩) 1 cG, .int .i64 (n : Int), .slice (some ⟨w1.heap.size, 0, none⟩) 1 1] 67 i
  rw [hW2]
  rw [hs2] at hnew hfz
  have c : ∀ j u, [Value.slice (some ⟨G, 0, none⟩) 1 cG, .int .i64 (n : Int), .slice (some ⟨w1.heap.size, 0, none⟩) 1 1][j]? = some u → (W2.alloc (.cells #[.slice (some ⟨G, 0, none⟩) 1 cG, .int .i64 (n : Int), .slice (some ⟨w1.heap.size, 0, none⟩) 1 1] 67)).cell? ⟨w1.heap.size + 1, j, none⟩ = some u := fun j u hu => by
    have := hnew j u hu
    rwa [Addr.add_lit, Nat.zero_add] at this
  refine ⟨G, cG, w1.heap.size, 1, fun _ => g, fun _ => 0, ⟨c 0 _ rfl, c 1 _ rfl, c 2 _ rfl, hfz 0, hfz 2, ?_, fun k hk => ?_, ?_, fun j k hj hk _ => ?_, ⟨by omega, by omega, by omega⟩, fun k hk => ⟨fun e => h.ne e.symm, by omega, by omega⟩, ⟨by omega, fun k hk => h.low⟩, ⟨id, id, id, fun _ _ => id⟩, (beginP_inv n).wide, by show 1 ≤ 5000; omega, by show 0 < 1; omega, ?_, fun i _ => rfl⟩⟩
  · have h1 := h.own.alloc (.cells #[.int .i64 0] 3)
    rw [hW2] at h1
    exact h1.alloc _
  · have hk0 : k = 0 := by have : k < 1 := hk; omega
    subst hk0
    have h1 := h.row.of_block (Below.heap_alloc w1 (.cells #[.int .i64 0] 3) g hgs)
    rw [hW2] at h1
    refine (h1.of_block (Below.heap_alloc W2 (.cells #[.slice (some ⟨G, 0, none⟩) 1 cG, .int .i64 (n : Int), .slice (some ⟨w1.heap.size, 0, none⟩) 1 1] 67) g (by omega))).congr fun x _ => ?_
    show Value.int .i64 (-1) = .int .i64 (ent ([] ++ [newRow n]) 0 x)
    rw [ent_app, if_neg (by simp), if_pos (show 0 = ([] : List (List Int)).length from rfl), ent_new]
  · have h1 := World.ownsRow_lit (base := B) (e := 3) (size := 1) w1 #[.int .i64 0] 1 hB (by decide) rfl
    rw [hW2] at h1
    exact h1.alloc _
  · have h1 : j < 1 := hj
    have h2 : k < 1 := hk
    omega
  · refine ⟨Cls.id, fun i hi => Nat.zero_le _, fun i hi => ?_, fun i hi e => rfl, fun i hi e => ?_⟩
    · have : i < 1 := hi
      show 0 = i
      omega
    · have : i < 1 := hi
      show 0 = i
      omega

set_option maxRecDepth 100000 in
set_option maxHeartbeats 2000000 in
theorem begin_ (n : Nat) (w : World) (hn : n ≤ 12) :
    Calls Tryd.prog 20 #[.int .i64 (n : Int)] w fun e w' => ∃ P, e = .returned (.pointer (some ⟨P, 0, none⟩)) ∧ OpAt w.heap.size (fun _ => False) P n w' (beginP n) ∧ Below w.heap.size w w' := by
  have hbl := blank_one n w hn
  go_enter Tryd.func20, Tryd.ntmps20
  go_wp2_with (first
    | (go_at_call 31; refine hbl.mono ?_; rintro e V ⟨G, cG, g, rfl, hb⟩; have HB := Hid.mk' hb; clear hb hbl)
    | fail)
  go_ret
  have hs := HB.out.below.size
  have h1 := begin_op HB.out hs
  refine ⟨_, rfl, h1, (HB.out.below.alloc hs _).alloc (by simp; omega) _⟩

end Go.Proofs.YthcgabghkbgccaaDoor
