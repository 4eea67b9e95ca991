/- An array of a hundred numbers in a block of its own. things: it answers a slice, and leaves alone what is not its own. -/
import Derived.Test.YtmndhclmhjmbpaaGreatDoorHeap
import Derived.Deep.WholeRow
import Derived.Deep.MidRow
import Derived.Test.YtmndhclmhjmbpaaGreatDoorIdxSorted
namespace Go.Proofs.YtmndhclmhjmbpaaGreatDoor
open Go.RowKit Go.Sort

/-- The cells of an array of a hundred numbers. -/
def numC (F : Nat → Int) : List Value := (List.range 100).map fun k => .int .i64 (F k)
theorem numC_len (F : Nat → Int) : (numC F).length = 100 := by simp [numC]
theorem numC_at (F : Nat → Int) {k : Nat} (hk : k < 100) : (numC F)[k]? = some (.int .i64 (F k)) := by simp [numC, hk]
theorem numC_set (F : Nat → Int) (k : Nat) (x : Int) : (numC F).set k (.int .i64 x) = numC (fun i => if i = k then x else F i) := by
  refine List.ext_getElem? fun i => ?_
  by_cases hi : i < 100
  · rw [List.getElem?_set, numC_at _ hi, numC_at _ hi, numC_len]
    by_cases e : k = i
    · subst e; simp [hi]
    · rw [if_neg e, if_neg (fun h => e h.symm)]
  · rw [List.getElem?_eq_none (by rw [List.length_set, numC_len]; omega), List.getElem?_eq_none (by rw [numC_len]; omega)]

def NumsAt (t : TypeId) (b : Nat) (W : World) (F : Nat → Int) : Prop := W.heap[b]? = some (.cells (numC F).toArray t (0, 0))
section
variable {t : TypeId} {b : Nat} {W W' : World} {F : Nat → Int}
theorem NumsAt.cell (h : NumsAt t b W F) {k : Nat} (hk : k < 100) : W.cell? ⟨b, k, none⟩ = some (.int .i64 (F k)) ∧ W.frozen? ⟨b, k, none⟩ = false := by
  have h' : W.heap[b]? = some (.cells (numC F).toArray t (0, 0)) := h
  constructor
  · have := numC_at F hk
    simp [World.cell?, h', this]
  · simp [World.frozen?, h']
theorem NumsAt.lt (h : NumsAt t b W F) : b < W.heap.size := (Array.getElem?_eq_some_iff.1 h).1
theorem NumsAt.below (h : NumsAt t b W F) (hB : Below W.heap.size W W') : NumsAt t b W' F := (hB.block b h.lt).trans h
theorem NumsAt.keep (h : NumsAt t b W F) (hk : W'.heap[b]? = W.heap[b]?) : NumsAt t b W' F := hk.trans h
theorem NumsAt.put (h : NumsAt t b W F) (k : Nat) (x : Int) : NumsAt t b (W.setCell ⟨b, k, none⟩ (.int .i64 x)) (fun i => if i = k then x else F i) := by
  have h1 := heap_setCell_same W b k _ t (.int .i64 x) h
  unfold NumsAt
  rw [h1, ← numC_set]
  simp
theorem numsAt_new (W : World) (F : Nat → Int) (t : TypeId) : NumsAt t W.heap.size (W.alloc (.cells (numC F).toArray t)) F := (Go.MapKept.heap_alloc W _).1
theorem NumsAt.load {P : Program} {n : Nat} {e : TypeId} (h : NumsAt t b W F) (hu : P.underlying t = some (.array n e)) (hi : (P.info? t).map (·.size) = some 100) : (loadVar t ⟨b, 0, none⟩).run P W = .ok (.agg (numC F).toArray) W :=
  run_loadVar_row W b t t _ (0, 0) _ h hu rfl (by rw [hi]; simp [numC_len])
theorem NumsAt.loadAt {P : Program} {n : Nat} {e : TypeId} (h : NumsAt t b W F) (hu : P.underlying t = some (.array n e)) (hi : (P.info? t).map (·.size) = some 100) : (Instr.loadAt t (.pointer (some ⟨b, 0, none⟩))).run P W = .ok (.agg (numC F).toArray) W := by
  simp only [Instr.loadAt, Instr.sureAddr, Sem.run_bind, Sem.run_pure, Result.andThen_ok]
  exact NumsAt.load h hu hi
theorem NumsAt.storeAt {P : Program} (h : NumsAt t b W F) (G : Nat → Int) (hi : (P.info? t).map (·.size) = some 100) : (Instr.storeAt t (.pointer (some ⟨b, 0, none⟩)) (.agg (numC G).toArray)).run P W = .ok () (W.setRow b (numC G).toArray) ∧ NumsAt t b (W.setRow b (numC G).toArray) G := by
  constructor
  · simp only [Instr.storeAt, Instr.sureAddr, Sem.run_bind, Sem.run_pure, Result.andThen_ok]
    refine run_storeVar_row W b t t _ _ h (by rw [hi]; simp [numC_len]) (by simp [numC_len]) (all_oneCell_toArray fun v hv => ?_)
    obtain ⟨k, _, rfl⟩ := List.mem_map.1 hv
    rfl
  · exact setRow_heap W b _ _ t (0, 0) h
theorem NumsAt.storeCells {P : Program} (h : NumsAt t b W F) (G : Nat → Int) : (Go.storeCells ⟨b, 0, none⟩ (numC G)).run P W = .ok () (W.setRow b (numC G).toArray) := by
  have := run_storeCells_from (P := P) b t (numC G) 0 _ W h (by simp [numC_len]) (fun v hv => by
    obtain ⟨k, _, rfl⟩ := List.mem_map.1 hv
    rfl)
  simpa using this
theorem NumsAt.setRow (h : NumsAt t b W F) (G : Nat → Int) : NumsAt t b (W.setRow b (numC G).toArray) G := setRow_heap W b _ _ t (0, 0) h
theorem below_setRow {w W : World} {b : Nat} {c : Array Value} (hB : Below w.heap.size w W) (hb : w.heap.size ≤ b) : Below w.heap.size w (W.setRow b c) where
  size := by rw [setRow_size]; exact hB.size
  block := fun k hk => by rw [setRow_other _ _ _ _ (by omega)]; exact hB.block k hk
  os := hB.os
  output := hB.output
  tape := hB.tape
end

/-- A load, a store, by what they are known to do. -/
theorem wp_load_at {P : Program} {op : Oper} {a : Act} {w : World} {K : Act → World → Prop} {Q : Exit → Act → World → Prop} {t : TypeId} {x : Operand} {p v : Value} (ho : op.op = .load t x) (hx : a.eval x = p) (h : (Instr.loadAt t p).run P w = .ok v w) (hK : K (a.put op.dst v) w) : op.wp P a w K Q := by
  unfold Oper.wp execOp
  simp only [ho, hx, Sem.run_bind, h, Result.andThen_ok]
  exact hK
theorem wp_store_at {P : Program} {op : Oper} {a : Act} {w w' : World} {K : Act → World → Prop} {Q : Exit → Act → World → Prop} {t : TypeId} {x y : Operand} {p v : Value} (ho : op.op = .store t x y) (hx : a.eval x = p) (hy : a.eval y = v) (h : (Instr.storeAt t p v).run P w = .ok () w') (hK : K (a.put op.dst undef) w') : op.wp P a w K Q := by
  unfold Oper.wp execOp
  simp only [ho, hx, hy, Sem.run_bind, h, Result.andThen_ok]
  exact hK

set_option maxRecDepth 100000 in
theorem verts_ (a0 a1 a2 a3 a4 a5 a6 : Option Addr) (n0 n1 n2 n3 n4 n5 n6 c0 c1 c2 c3 c4 c5 c6 : Nat) (w : World) :
    Calls Tryz.prog 60 #[.agg #[.slice a0 n0 c0, .slice a1 n1 c1, .slice a2 n2 c2, .slice a3 n3 c3, .slice a4 n4 c4, .slice a5 n5 c5, .slice a6 n6 c6]] w fun e w' => e = .returned (.slice a0 n0 c0) ∧ Below w.heap.size w w' := by
  have HB : Hid (Below w.heap.size w (w.alloc (.cells #[.slice a0 n0 c0, .slice a1 n1 c1, .slice a2 n2 c2, .slice a3 n3 c3, .slice a4 n4 c4, .slice a5 n5 c5, .slice a6 n6 c6] 63))) := (Below.refl _ w).alloc (Nat.le_refl _) _
  go_enter Tryz.func60, Tryz.ntmps60
  go_wp2
  go_ret
  exact ⟨rfl, HB.out⟩

end Go.Proofs.YtmndhclmhjmbpaaGreatDoor

namespace Go.Proofs.YtmndhclmhjmbpaaGreatDoor
open Go.RowKit Go.Sort

/-- Sets that may be asked for their first and last vertex. -/
def FacesOk (F : List (List Int)) : Prop := ∀ x ∈ F, x ≠ [] ∧ x.length ≤ 7 ∧ ∀ v ∈ x, 0 ≤ v ∧ v ≤ 99

set_option maxRecDepth 100000 in
set_option maxHeartbeats 2000000 in
theorem things_ (vf vs : Value) (F : List (List Int)) (l : List Duo) (w : World) (hF : FacesOk F) (hFl : F.length ≤ 1000) (hl : l.length ≤ 1000) (hv : ∀ p ∈ l, 0 ≤ p.1 ∧ p.1 ≤ 99) (hr : Rows w vf F) (hd : DuoIn anyBlock w vs l) :
    Calls Tryz.prog 85 #[vf, vs] w fun e w' => ∃ a n c, e = .returned (.slice a n c) ∧ Below w.heap.size w w' := by
  obtain ⟨hz, hsz⟩ := zero_of_info (P := Tryz.prog) (t := 80) (v := .agg (numC fun _ => 0).toArray) (n := 100) (by kernel_rfl)
  have hmk := fun W => make_two 98 164 F.length Tryz.underlying98 (by kernel_rfl) hFl W
  obtain ⟨a0, c0, rfl, -, hc⟩ := hr.open_
  obtain ⟨aS, cs, rfl, hcd⟩ := hd
  have HC : Hid (∀ k, k < F.length → ∃ b o b1 o1 p1 n x y, a0 = some ⟨b, o, none⟩ ∧ b < w.heap.size ∧ w.cell? ⟨b, o + k, none⟩ = some (.slice (some ⟨b1, o1, none⟩) (n + 1) p1) ∧ b1 < w.heap.size ∧ n ≤ 7 ∧ x < 100 ∧ y < 100 ∧ w.cell? ⟨b1, o1, none⟩ = some (.int .i64 (x : Nat)) ∧ w.cell? ⟨b1, o1 + n, none⟩ = some (.int .i64 (y : Nat))) := fun k hk => by
    obtain ⟨b, o, rfl, -, hb, c⟩ := hc (by omega)
    obtain ⟨a1, p1, g1, i1⟩ := c k hk
    have hm : F[k]?.getD [] ∈ F := by rw [List.getElem?_eq_getElem hk]; exact List.getElem_mem hk
    obtain ⟨h1, h2, h3⟩ := hF _ hm
    obtain ⟨f, hf⟩ : ∃ f, F[k]?.getD [] = f := ⟨_, rfl⟩
    rw [hf] at g1 i1 h1 h2 h3
    have hpos : 0 < f.length := List.length_pos_iff.2 h1
    obtain ⟨n, hn⟩ : ∃ n, f.length = n + 1 := ⟨f.length - 1, by omega⟩
    obtain ⟨a1', p1', e1, -, hx1⟩ := i1.open_
    obtain ⟨rfl, rfl⟩ : a1 = a1' ∧ p1 = p1' := by simpa using e1
    obtain ⟨b1, o1, rfl, -, hb1, hc1⟩ := hx1 hpos
    have q1 := hc1 0 hpos
    have q2 := hc1 n (by omega)
    have m1 : f[0]?.getD 0 ∈ f := by rw [List.getElem?_eq_getElem hpos]; exact List.getElem_mem hpos
    have m2 : f[n]?.getD 0 ∈ f := by rw [List.getElem?_eq_getElem (by omega)]; exact List.getElem_mem _
    have b1' := h3 _ m1
    have b2' := h3 _ m2
    rw [hn] at g1
    refine ⟨b, o, b1, o1, p1, n, (f[0]?.getD 0).toNat, (f[n]?.getD 0).toNat, rfl, hb, g1, hb1, by omega, by omega, by omega, ?_, ?_⟩
    · rw [Int.toNat_of_nonneg b1'.1]; exact q1
    · rw [Int.toNat_of_nonneg b2'.1]; exact q2
  have HS : Hid (∀ k, k < l.length → ∃ g o x y, aS = some ⟨g, o, none⟩ ∧ g < w.heap.size ∧ x < 100 ∧ w.cell? ⟨g, o + k * 2, none⟩ = some (.int .i64 (x : Nat)) ∧ w.cell? ⟨g, o + k * 2 + 1, none⟩ = some (.int .i64 y)) := fun k hk => by
    obtain ⟨g, o, rfl, -, hg, hcs⟩ := hcd (by omega)
    have b1 := hv _ (List.getElem_mem hk)
    refine ⟨g, o, (l[k].1).toNat, l[k].2, rfl, hg, by omega, ?_, (hcs k hk).2⟩
    rw [Int.toNat_of_nonneg b1.1]; exact (hcs k hk).1
  obtain ⟨n, hn⟩ : ∃ n, F.length = n := ⟨_, rfl⟩
  obtain ⟨m, hm⟩ : ∃ m, l.length = m := ⟨_, rfl⟩
  rw [hn] at HC hmk hFl ⊢
  rw [hm] at HS hl ⊢
  have HB0 : Hid (Below w.heap.size w (w.alloc (.cells (numC fun _ => 0).toArray 80))) := (Below.refl _ w).alloc (Nat.le_refl _) _
  have HN0 : Hid (NumsAt 80 w.heap.size (w.alloc (.cells (numC fun _ => 0).toArray 80)) (fun _ => 0)) := numsAt_new w _ _
  clear hF hv hr hc hcd hn hm
  go_enter Tryz.func85, Tryz.ntmps85
  go_wp2_with fail
  go_loopw [15] (fun p W => ∃ (k : Nat) (G : Nat → Int), k ≤ m ∧ p = .int .i64 k ∧ NumsAt 80 w.heap.size W G ∧ Below w.heap.size w W) (fun p _ => m - (intOf p).toNat)
  case atStart => exact ⟨0, _, by omega, rfl, HN0.out, HB0.out⟩
  case round =>
    obtain ⟨k, G, hk, rfl, hn, hB⟩ := hrel
    have HB : Hid (Below w.heap.size w wr) := hB
    have HN : Hid (NumsAt 80 w.heap.size wr G) := hn
    clear hn hB
    by_cases hlt : k < m
    · obtain ⟨g, o, x, y, rfl, hg, hx, g1, g2⟩ := HS.out k hlt
      have g1' := (HB.out.cell (p := ⟨g, o + k * 2, none⟩) hg).trans g1
      have g2' := (HB.out.cell (p := ⟨g, o + k * 2 + 1, none⟩) hg).trans g2
      have HNA : Hid (NumsAt 80 w.heap.size (wr.alloc (.cells #[.int .i64 (x : Nat), .int .i64 y] 160)) G) := HN.out.below ((Below.refl _ wr).alloc (Nat.le_refl _) _)
      obtain ⟨f1, f2⟩ := HNA.out.cell hx
      have HBA : Hid (Below w.heap.size w (wr.alloc (.cells #[.int .i64 (x : Nat), .int .i64 y] 160))) := HB.out.alloc HB.out.size _
      clear g1 g2 HS HC
      go_wp2_with fail
      go_roundw
      case rel => exact ⟨k + 1, _, by omega, by go_num, HNA.out.put x _, HBA.out.setCell (Nat.le_refl _) _⟩
      case measure => simp [intOf]; omega
    · obtain rfl : k = m := by omega
      have HV0 : Hid (VecAt 164 (n * 2) wr.heap.size (wr.alloc (.cells (madeCells #[.int .i64 0, .int .i64 0] (n * 2)) 164)) (fun _ => .int .i64 0)) := made_two wr (.int .i64 0) n 164
      have hA : Below wr.heap.size wr (wr.alloc (.cells (madeCells #[.int .i64 0, .int .i64 0] (n * 2)) 164)) := (Below.refl _ wr).alloc (Nat.le_refl _) _
      have HN1 : Hid (NumsAt 80 w.heap.size (wr.alloc (.cells (madeCells #[.int .i64 0, .int .i64 0] (n * 2)) 164)) G) := HN.out.below hA
      have HB1 : Hid (Below w.heap.size w (wr.alloc (.cells (madeCells #[.int .i64 0, .int .i64 0] (n * 2)) 164))) := HB.out.alloc HB.out.size _
      obtain ⟨E, hE⟩ : ∃ E, wr.heap.size = E := ⟨_, rfl⟩
      have hwE : w.heap.size < E := by rw [← hE]; exact HN.out.lt
      rw [hE] at HV0
      clear HS hA HN HB
      go_wp2_with fail
      go_loopw [30] (fun p W => ∃ (k : Nat) (g : Nat → Value), k ≤ n ∧ p = .int .i64 k ∧ NumsAt 80 w.heap.size W G ∧ VecAt 164 (n * 2) E W g ∧ Below w.heap.size w W) (fun p _ => n - (intOf p).toNat)
      case atStart => exact ⟨0, _, by omega, rfl, HN1.out, HV0.out, HB1.out⟩
      case round =>
        obtain ⟨k, gv, hk, rfl, hn, hv, hB⟩ := hrel
        have HB : Hid (Below w.heap.size w wr) := hB
        have HN : Hid (NumsAt 80 w.heap.size wr G) := hn
        have HV : Hid (VecAt 164 (n * 2) E wr gv) := hv
        clear hn hB hv
        by_cases hlt : k < n
        · obtain ⟨b, o, b1, o1, p1, n1, x, y, rfl, hb, g1, hb1, hn1, hx, hy, g3, g4⟩ := HC.out k hlt
          have g1' := (HB.out.cell (p := ⟨b, o + k, none⟩) hb).trans g1
          have g3' := (HB.out.cell (p := ⟨b1, o1, none⟩) hb1).trans g3
          have g4' := (HB.out.cell (p := ⟨b1, o1 + n1, none⟩) hb1).trans g4
          have fx := (HN.out.cell hx).1
          have fy := (HN.out.cell hy).1
          obtain ⟨f1, f2⟩ := HV.out.cell (k := k * 2) (by omega)
          obtain ⟨f3, f4⟩ := HV.out.cell (k := k * 2 + 1) (by omega)
          have hw1 : IntKind.i64.wrap (((n1 + 1 : Nat) : Int) - 1) = (n1 : Int) := by rw [show ((n1 + 1 : Nat) : Int) - 1 = (n1 : Int) by omega]; exact wrapI (by omega) (by omega)
          clear g1 g3 g4 HC
          go_wp2_with fail
          go_region
          go_wp2_with fail
          all_goals
            go_roundw
            case rel =>
              have hkk : ∀ (u v : Value) (b : Nat), b ≠ E → ((wr.drew.setCell ⟨E, k * 2, none⟩ u).setCell ⟨E, k * 2 + 1, none⟩ v).heap[b]? = wr.heap[b]? := fun u v b hb => (Below.heap_setCell _ _ _ b (fun e => hb e)).trans (Below.heap_setCell _ _ _ b (fun e => hb e))
              exact ⟨k + 1, _, by omega, by go_num, HN.out.keep (hkk _ _ _ (by omega)), ((show VecAt 164 (n * 2) E wr.drew gv from HV.out).put (k * 2) _).put (k * 2 + 1) _, (HB.out.drew.setCell (by show w.heap.size ≤ E; omega) _).setCell (by show w.heap.size ≤ E; omega) _⟩
            case measure => simp [intOf]; omega
        · obtain rfl : k = n := by omega
          go_wp2_with fail
          go_ret
          exact ⟨_, _, _, rfl, HB.out⟩

end Go.Proofs.YtmndhclmhjmbpaaGreatDoor
