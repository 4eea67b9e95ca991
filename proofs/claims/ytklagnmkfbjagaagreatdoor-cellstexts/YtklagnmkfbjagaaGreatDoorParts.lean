/- What parts answers: the texts of a face without its vertex 0, 1, .., in new memory. -/
import Derived.Test.YtklagnmkfbjagaaGreatDoorPile
import Derived.Deep.OwnRows
import Derived.Deep.RegionHeld3
namespace Go.Proofs.YtklagnmkfbjagaaGreatDoor
open Go.RowKit Go.Sort Go.Maps Go.Deep

theorem erase_text (f : List UInt8) (i : Nat) : (⟨f.toArray⟩ : ByteArray).extract 0 i ++ (⟨f.toArray⟩ : ByteArray).extract (i + 1) f.length = ⟨(f.eraseIdx i).toArray⟩ := by
  apply ByteArray.ext
  simp [List.eraseIdx_eq_take_drop_succ]
  exact List.take_of_length_le (by simp)

set_option maxRecDepth 100000 in
set_option maxHeartbeats 1000000 in
theorem parts_ (f : List UInt8) (w : World) (h0 : 0 < f.length) (hf : f.length ≤ 1000) :
    Calls Tryz.prog 72 #[encStr f] w fun e w' => ∃ v, e = .returned v ∧ StrsIn (fun b => w.heap.size ≤ b) w' v (partsOf f) ∧ Below w.heap.size w w' := by
  obtain ⟨s, hs⟩ : ∃ s : ByteArray, (⟨f.toArray⟩ : ByteArray) = s := ⟨_, rfl⟩
  have hsz : s.size = f.length := by rw [← hs]; rfl
  have he : encStr f = .string s := by rw [← hs, encStr]
  rw [he]
  have HS : Hid ((⟨f.toArray⟩ : ByteArray) = s) := hs
  obtain ⟨n, hn⟩ : ∃ n, f.length = n := ⟨_, rfl⟩
  rw [hn] at hsz hf h0
  have HN : Hid (f.length = n) := hn
  clear hs he hn
  by_cases h1 : n = 1
  · subst h1
    go_enter Tryz.func72, Tryz.ntmps72
    go_wp2
    go_ret
    refine ⟨_, rfl, ?_, Below.refl _ _⟩
    unfold partsOf
    rw [if_pos HN.out]
    exact SliceIn.nil _ _
  · have hmk := run_make_row' (P := Tryz.prog) 50 9 (.string ⟨#[]⟩) 16 Tryz.underlying50 Tryz.info9 rfl .i64 .i64 n (by omega) (by omega)
    go_enter Tryz.func72, Tryz.ntmps72
    go_wp2
    go_loopw [13] (fun p wr => ∃ i : Nat, i ≤ n ∧ p = .int .i64 i ∧ wr.rowIs w.heap.size 9 n (fun j => if j < i then encStr (f.eraseIdx j) else encStr []) ∧ Below w.heap.size w wr)
      (fun p _ => n - (intOf p).toNat)
    case atStart => exact ⟨0, by omega, rfl, (World.rowIs_made _ _ _ _).congr (fun j _ => by simp [encStr]), (Below.refl _ _).alloc (Nat.le_refl _) _⟩
    case round =>
      obtain ⟨i, hi, rfl, hrow, hB⟩ := hrel
      by_cases hlt : i < n
      · have hc := hrow.cell hlt
        have hz := hrow.frozen i
        have HR : Hid (wr.rowIs w.heap.size 9 n (fun j => if j < i then encStr (f.eraseIdx j) else encStr [])) := hrow
        simp only [Nat.lt_irrefl, if_false] at hc
        clear hrow
        have hadd : ∀ W, (Op.stringOp .add (s.extract 0 i) (s.extract (i + 1) n)).run Tryz.prog W = .ok (.string (s.extract 0 i ++ s.extract (i + 1) n)) W := fun W => run_string_add_sum W _ _ (by simp; omega)
        go_wp2_with fail
        go_region
        go_wp2
        go_roundw
        case rel =>
          refine ⟨i + 1, by omega, by go_num, ?_, (hB.setCell (p := ⟨w.heap.size, i, none⟩) (Nat.le_refl _) _).drew⟩
          refine ((HR.out.set i _).drew).congr (fun j _ => ?_)
          by_cases e : j = i
          · subst e
            rw [if_pos rfl, if_pos (Nat.lt_succ_self _)]
            have := erase_text f j
            rw [HN.out, HS.out] at this
            rw [this, encStr]
          · rw [if_neg e]
            by_cases e2 : j < i
            · rw [if_pos e2, if_pos (by omega)]
            · rw [if_neg e2, if_neg (by omega)]
        case measure => simp [intOf]; omega
      · obtain rfl : i = n := by omega
        have HR : Hid (wr.rowIs w.heap.size 9 i (fun j => if j < i then encStr (f.eraseIdx j) else encStr [])) := hrow
        clear hrow
        go_wp2
        go_ret
        refine ⟨_, rfl, ?_, hB⟩
        have hp : partsOf f = (List.range f.length).map f.eraseIdx := by unfold partsOf; rw [if_neg (by rw [HN.out]; exact h1)]
        have hl : ((partsOf f).map encStr).length = i := by rw [hp]; simp [HN.out]
        refine ⟨some ⟨w.heap.size, 0, none⟩, i, by rw [hl]; rfl, ⟨by omega, fun h => by cases h⟩, fun _ => ⟨w.heap.size, 0, rfl, Nat.le_refl _, fun k u hu => ?_⟩⟩
        have hk : k < i := by have := (List.getElem?_eq_some_iff.1 hu).1; omega
        have hc := HR.out.cell hk
        rw [if_pos hk] at hc
        rw [Nat.zero_add, hc, ← hu, hp]
        simp [HN.out, hk]

end Go.Proofs.YtklagnmkfbjagaaGreatDoor
