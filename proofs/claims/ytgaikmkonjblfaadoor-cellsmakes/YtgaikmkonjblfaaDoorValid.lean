/- What Valid answers of any sets that are told as facets. -/
import Derived.Test.YtgaikmkonjblfaaDoorOpen
namespace Go.Proofs.YtgaikmkonjblfaaDoor
open Go.RowKit Go.Sort Go.Maps Go.Deep

/-- What Valid answers. -/
def ValidSays (a : Nat → Addr) (l : List (List Int)) (w : World) (e : Ending) (w' : World) : Prop :=
  Below w.heap.size w w' ∧ ((¬ (∀ x ∈ l, SetOk x) ∧ e = .returned (.iface 159 (.pointer (some (a 3))))) ∨
    ((∀ x ∈ l, SetOk x) ∧ ∃ ts : List (List UInt8), ts.map ints = l.map srt ∧
      ((Over ts ∧ e = .returned (.iface 159 (.pointer (some (a 1))))) ∨
       (¬ Over ts ∧ ∃ ss : List (List UInt8), ss.Nodup ∧ (∀ x, x ∈ ss ↔ FaceOf ts x ∧ ¬ InnerOf ts x) ∧
         ((¬ (srtS ss).map ints = l ∧ e = .returned (.iface 159 (.pointer (some (a 2))))) ∨ ((srtS ss).map ints = l ∧ e = .returned .nilIface))))))

set_option maxRecDepth 100000 in
set_option maxHeartbeats 1000000 in
theorem valid_ {a : Nat → Addr} {s : Nat → ByteArray} (vl : Value) (l : List (List Int)) (w : World) (hE : Errs a s w) (hl : Rows w vl l) (hll : l.length ≤ 100000) (hle : ∀ x ∈ l, x.length ≤ 1000) :
    Calls Tryd.prog 13 #[.agg #[vl]] w fun e w' => ValidSays a l w e w' := by
  have HR : Hid (Rows w vl l) := hl
  obtain ⟨al, cl, rfl, -, -⟩ := hl.open_
  have hBa : Below w.heap.size w (w.alloc (.cells #[.slice al l.length cl] 26)) := (Below.refl _ w).alloc (Nat.le_refl _) _
  have hop := open_c _ l (w.alloc (.cells #[.slice al l.length cl] 26)) (hE.below hBa) (hl.below hBa) hll hle
  have hbc := (box_new w (.slice al l.length cl) 26).1
  clear hl
  go_enter Tryd.func13, Tryd.ntmps13
  go_wp2_with fail
  refine hop.mono ?_
  rintro e w2 ⟨hB2, ⟨hno, rfl⟩ | ⟨hok, ts, hts, ⟨hov, rfl⟩ | ⟨hno, ss, h2, h3, ⟨hne, rfl⟩ | ⟨heq, b, F, G, rfl, hP, hH⟩⟩⟩⟩
  · clear hop
    go_wp2
    go_ret
    exact ⟨below_out (below_after hB2 (Below.refl _ w2)), .inl ⟨hno, rfl⟩⟩
  · have H : Hid (((∀ x ∈ l, SetOk x) ∧ ts.map ints = l.map srt) ∧ Over ts) := ⟨⟨hok, hts⟩, hov⟩
    clear hop hok hts hov
    go_wp2
    go_ret
    exact ⟨below_out (below_after hB2 (Below.refl _ w2)), .inr ⟨H.out.1.1, ts, H.out.1.2, .inl ⟨H.out.2, rfl⟩⟩⟩
  · have H : Hid (((∀ x ∈ l, SetOk x) ∧ ts.map ints = l.map srt) ∧ ¬ Over ts ∧ ss.Nodup ∧ (∀ x, x ∈ ss ↔ FaceOf ts x ∧ ¬ InnerOf ts x) ∧ ¬ (srtS ss).map ints = l) := ⟨⟨hok, hts⟩, hno, h2, h3, hne⟩
    clear hop hok hts hno h2 h3 hne
    go_wp2
    go_ret
    exact ⟨below_out (below_after hB2 (Below.refl _ w2)), .inr ⟨H.out.1.1, ts, H.out.1.2, .inr ⟨H.out.2.1, ss, H.out.2.2.1, H.out.2.2.2.1, .inl ⟨H.out.2.2.2.2, rfl⟩⟩⟩⟩
  · have H : Hid (((∀ x ∈ l, SetOk x) ∧ ts.map ints = l.map srt) ∧ ¬ Over ts ∧ ss.Nodup ∧ (∀ x, x ∈ ss ↔ FaceOf ts x ∧ ¬ InnerOf ts x) ∧ (srtS ss).map ints = l) := ⟨⟨hok, hts⟩, hno, h2, h3, heq⟩
    clear hop hok hts hno h2 h3 heq hP hH
    go_wp2
    go_ret
    exact ⟨below_out (below_after hB2 (Below.refl _ w2)), .inr ⟨H.out.1.1, ts, H.out.1.2, .inr ⟨H.out.2.1, ss, H.out.2.2.1, H.out.2.2.2.1, .inr ⟨H.out.2.2.2.2, rfl⟩⟩⟩⟩

end Go.Proofs.YtgaikmkonjblfaaDoor
