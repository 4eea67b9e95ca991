/- What open answers of a complex that was handed in: the map of its faces, or which error it has. What Valid answers of any sets that are told as facets. -/
import Derived.Test.YtklagnmkfbjagaaGreatDoorEqual
import Derived.Deep.RegionHeld3
namespace Go.Proofs.YtklagnmkfbjagaaGreatDoor
open Go.RowKit Go.Sort Go.Maps Go.Deep

/-- What open answers. -/
def OpenSays (a : Nat → Addr) (l : List (List Int)) (w : World) (e : Ending) (w' : World) : Prop :=
  Below w.heap.size w w' ∧ ((¬ (∀ x ∈ l, SetOk x) ∧ e = .returned (.tuple #[.map none, .iface 168 (.pointer (some (a 3)))])) ∨
    ((∀ x ∈ l, SetOk x) ∧ ∃ ts : List (List UInt8), ts.map ints = l.map srt ∧
      ((Over ts ∧ e = .returned (.tuple #[.map none, .iface 168 (.pointer (some (a 1)))])) ∨
       (¬ Over ts ∧ ∃ ss : List (List UInt8), ss.Nodup ∧ (∀ x, x ∈ ss ↔ FaceOf ts x ∧ ¬ InnerOf ts x) ∧
         ((¬ (srtS ss).map ints = l ∧ e = .returned (.tuple #[.map none, .iface 168 (.pointer (some (a 2)))])) ∨
          ((srtS ss).map ints = l ∧ ∃ b F G, e = .returned (.tuple #[.map (some b), .nilIface]) ∧ PileAt w' b F G ∧ Heaped ts F G))))))

theorem told_sizes {F ss : List (List UInt8)} {G : List UInt8 → Prop} (h2 : ss.Nodup) (h3 : ∀ x, x ∈ ss ↔ x ∈ F ∧ ¬ G x) (hF : F.length ≤ 100000) (hx : ∀ x ∈ F, x.length ≤ 1000) :
    ((srtS ss).map ints).length ≤ 1000000 ∧ ∀ x ∈ (srtS ss).map ints, x.length ≤ 1000000 := by
  have e1 : (srtS ss).length = ss.length := (List.mergeSort_perm ss _).length_eq
  have := nodup_le h2 (fun x hx => ((h3 x).1 hx).1)
  refine ⟨by rw [List.length_map]; omega, fun x hm => ?_⟩
  obtain ⟨t, ht, rfl⟩ := List.mem_map.1 hm
  have := hx t ((h3 t).1 ((List.mergeSort_perm ss _).mem_iff.1 ht)).1
  rw [ints_length]; omega

theorem field_facets (a : Option Addr) (n c : Nat) (W : World) : (Instr.field 31 (.agg #[.slice a n c]) 0).run Tryz.prog W = .ok (.slice a n c) W := by kernel_rfl

set_option maxRecDepth 100000 in
set_option maxHeartbeats 2000000 in
theorem open_c {a : Nat → Addr} {s : Nat → ByteArray} (vl : Value) (l : List (List Int)) (w : World) (hE : Errs a s w) (hl : Rows w vl l) (hll : l.length ≤ 100000) (hle : ∀ x ∈ l, x.length ≤ 1000) :
    Calls Tryz.prog 32 #[.agg #[vl]] w fun e w' => OpenSays a l w e w' := by
  have HR : Hid (Rows w vl l) := hl
  obtain ⟨al, cl, rfl, -, -⟩ := hl.open_
  have hBa : Below w.heap.size w (w.alloc (.cells #[.slice al l.length cl] 31)) := (Below.refl _ w).alloc (Nat.le_refl _) _
  have hgat := gather_ _ l (w.alloc (.cells #[.slice al l.length cl] 31)) (hE.below hBa) (hl.below hBa) hll hle
  have hbox := box_new w (.slice al l.length cl) 31
  have hbc := hbox.1
  clear hl
  go_enter Tryz.func32, Tryz.ntmps32
  go_wp2_with fail
  refine hgat.mono ?_
  rintro e w2 ⟨hB2, ⟨hno, rfl⟩ | ⟨hok, ts, hts, ⟨b, F, G, rfl, hP, hH⟩ | ⟨hov, rfl⟩⟩⟩
  · clear hgat
    go_wp2
    go_ret2
    exact ⟨below_out (below_after hB2 (Below.refl _ w2)), .inl ⟨hno, rfl⟩⟩
  · have hfew := (hH.pile 0).few
    have hsh := (hH.pile 0).short
    have HH : Hid (Heaped ts F G) := hH
    have HOK : Hid ((∀ x ∈ l, SetOk x) ∧ ts.map ints = l.map srt) := ⟨hok, hts⟩
    have HPP : Hid (PileAt w2 b F G) := hP
    have hx7 : ∀ x ∈ F, x.length ≤ 1000 := fun x hx => by have := hsh x hx; omega
    have hF6 : F.length ≤ 100000 := by omega
    have hB3 := below_after hB2 (Below.refl _ w2)
    have c1 : w2.cell? ⟨w.heap.size, 0, none⟩ = some (.slice al l.length cl) := (hB3.cell (p := ⟨w.heap.size, 0, none⟩) (by simp)).trans hbox.1
    have HLL : Hid (l.length ≤ 100000 ∧ ∀ x ∈ l, x.length ≤ 1000) := ⟨hll, hle⟩
    clear hgat hP hH hsh hok hts hfew hle hbc hbox
    have HBw : Hid (Below w.heap.size w w2) := below_out hB3
    have hlt1 := cell_lt c1
    have hff := field_facets
    go_wp2_with fail
    go_region_held3 (fun W => W.cell? ⟨w.heap.size, 0, none⟩ = some (.slice al l.length cl)) (go_keep) (first
      | (go_at_call 28; refine (told_ b F G _ ?_ hF6 hx7).mono ?_; exact HPP.out; rintro e w3 ⟨v, ss, rfl, h1, h2, h3, h4⟩; obtain ⟨a3, c3, rfl, -, -⟩ := h1.rows.open_; have R1 := h1.rows; rw [List.length_map] at R1; have hBt : Below w.heap.size w w3 := (by first | exact HBw.out.drew.trans (h4.mono HBw.out.size) | exact HBw.out.trans (h4.mono HBw.out.size)); have hP3 : PileAt w3 b F G := (by exact PileAt.below (by exact HPP.out) h4); have cb : w3.cell? ⟨w.heap.size, 0, none⟩ = some (.slice al l.length cl) := (h4.cell (p := ⟨w.heap.size, 0, none⟩) hlt1).trans c1)
      | (go_at_call 47; refine (equal_lists _ _ ((srtS ss).map ints) l _ ?_ ?_ ?_ ?_).mono ?_; exact R1; exact HR.out.below hBt; exact (told_sizes h2 h3 hF6 hx7).1; exact (told_sizes h2 h3 hF6 hx7).2; rintro e w4 ⟨rfl, q, rfl⟩))
    have HIN : Hid (ss.Nodup ∧ ∀ x, x ∈ ss ↔ FaceOf ts x ∧ ¬ InnerOf ts x) := ⟨h2, fun x => by rw [h3, HH.out.mem, HH.out.memG]⟩
    have hBq : Below w.heap.size w (w3.drewN q) := hBt.trans ⟨rfl, rfl, rfl, Nat.le_refl _, fun _ _ => rfl⟩
    have hPq : PileAt (w3.drewN q) b F G := hP3
    have hgl : (w3.drewN q).cell? ⟨2, 0, none⟩ = some (.iface 168 (.pointer (some (a 2)))) := (hE.below hBq).glob 2 (by decide)
    generalize w3.drewN q = W4 at hBq hPq hgl ⊢
    clear h2 h3 h1 R1 hx7
    by_cases hq : (srtS ss).map ints = l
    · rw [decide_eq_true hq]
      have HQ : Hid ((srtS ss).map ints = l) := hq
      clear hq
      go_wp2
      go_ret2
      exact ⟨hBq, .inr ⟨HOK.out.1, ts, HOK.out.2, .inr ⟨HH.out.notOver, ss, HIN.out.1, HIN.out.2, .inr ⟨HQ.out, b, F, G, rfl, hPq, HH.out⟩⟩⟩⟩
    · rw [decide_eq_false hq]
      have HQ : Hid (¬ (srtS ss).map ints = l) := hq
      clear hq
      go_wp2_with fail
      go_quiet (fail)
      go_wp2
      go_ret2
      exact ⟨hBq.trans ⟨rfl, rfl, rfl, Nat.le_refl _, fun _ _ => rfl⟩, .inr ⟨HOK.out.1, ts, HOK.out.2, .inr ⟨HH.out.notOver, ss, HIN.out.1, HIN.out.2, .inl ⟨HQ.out, rfl⟩⟩⟩⟩
  · have HOK : Hid (((∀ x ∈ l, SetOk x) ∧ ts.map ints = l.map srt) ∧ Over ts) := ⟨⟨hok, hts⟩, hov⟩
    clear hgat hok hts hov
    go_wp2
    go_ret2
    exact ⟨below_out (below_after hB2 (Below.refl _ w2)), .inr ⟨HOK.out.1.1, ts, HOK.out.1.2, .inl ⟨HOK.out.2, rfl⟩⟩⟩

end Go.Proofs.YtklagnmkfbjagaaGreatDoor

namespace Go.Proofs.YtklagnmkfbjagaaGreatDoor
open Go.RowKit Go.Sort Go.Maps Go.Deep

/-- What Valid answers. -/
def ValidSays (a : Nat → Addr) (l : List (List Int)) (w : World) (e : Ending) (w' : World) : Prop :=
  Below w.heap.size w w' ∧ ((¬ (∀ x ∈ l, SetOk x) ∧ e = .returned (.iface 168 (.pointer (some (a 3))))) ∨
    ((∀ x ∈ l, SetOk x) ∧ ∃ ts : List (List UInt8), ts.map ints = l.map srt ∧
      ((Over ts ∧ e = .returned (.iface 168 (.pointer (some (a 1))))) ∨
       (¬ Over ts ∧ ∃ ss : List (List UInt8), ss.Nodup ∧ (∀ x, x ∈ ss ↔ FaceOf ts x ∧ ¬ InnerOf ts x) ∧
         ((¬ (srtS ss).map ints = l ∧ e = .returned (.iface 168 (.pointer (some (a 2))))) ∨ ((srtS ss).map ints = l ∧ e = .returned .nilIface))))))

set_option maxRecDepth 100000 in
set_option maxHeartbeats 1000000 in
theorem valid_ {a : Nat → Addr} {s : Nat → ByteArray} (vl : Value) (l : List (List Int)) (w : World) (hE : Errs a s w) (hl : Rows w vl l) (hll : l.length ≤ 100000) (hle : ∀ x ∈ l, x.length ≤ 1000) :
    Calls Tryz.prog 19 #[.agg #[vl]] w fun e w' => ValidSays a l w e w' := by
  have HR : Hid (Rows w vl l) := hl
  obtain ⟨al, cl, rfl, -, -⟩ := hl.open_
  have hBa : Below w.heap.size w (w.alloc (.cells #[.slice al l.length cl] 31)) := (Below.refl _ w).alloc (Nat.le_refl _) _
  have hop := open_c _ l (w.alloc (.cells #[.slice al l.length cl] 31)) (hE.below hBa) (hl.below hBa) hll hle
  have hbc := (box_new w (.slice al l.length cl) 31).1
  clear hl
  go_enter Tryz.func19, Tryz.ntmps19
  go_wp2_with fail
  refine hop.mono ?_
  rintro e w2 ⟨hB2, ⟨hno, rfl⟩ | ⟨hok, ts, hts, ⟨hov, rfl⟩ | ⟨hno, ss, h2, h3, ⟨hne, rfl⟩ | ⟨heq, b, F, G, rfl, hP, hH⟩⟩⟩⟩
  · clear hop
    go_wp2
    go_ret
    exact ⟨below_out (below_after hB2 (Below.refl _ w2)), .inl ⟨hno, rfl⟩⟩
  · have H : Hid (((∀ x ∈ l, SetOk x) ∧ ts.map ints = l.map srt) ∧ Over ts) := ⟨⟨hok, hts⟩, hov⟩
    clear hop hok hts hov
    go_wp2
    go_ret
    exact ⟨below_out (below_after hB2 (Below.refl _ w2)), .inr ⟨H.out.1.1, ts, H.out.1.2, .inl ⟨H.out.2, rfl⟩⟩⟩
  · have H : Hid (((∀ x ∈ l, SetOk x) ∧ ts.map ints = l.map srt) ∧ ¬ Over ts ∧ ss.Nodup ∧ (∀ x, x ∈ ss ↔ FaceOf ts x ∧ ¬ InnerOf ts x) ∧ ¬ (srtS ss).map ints = l) := ⟨⟨hok, hts⟩, hno, h2, h3, hne⟩
    clear hop hok hts hno h2 h3 hne
    go_wp2
    go_ret
    exact ⟨below_out (below_after hB2 (Below.refl _ w2)), .inr ⟨H.out.1.1, ts, H.out.1.2, .inr ⟨H.out.2.1, ss, H.out.2.2.1, H.out.2.2.2.1, .inl ⟨H.out.2.2.2.2, rfl⟩⟩⟩⟩
  · have H : Hid (((∀ x ∈ l, SetOk x) ∧ ts.map ints = l.map srt) ∧ ¬ Over ts ∧ ss.Nodup ∧ (∀ x, x ∈ ss ↔ FaceOf ts x ∧ ¬ InnerOf ts x) ∧ (srtS ss).map ints = l) := ⟨⟨hok, hts⟩, hno, h2, h3, heq⟩
    clear hop hok hts hno h2 h3 heq hP hH
    go_wp2
    go_ret
    exact ⟨below_out (below_after hB2 (Below.refl _ w2)), .inr ⟨H.out.1.1, ts, H.out.1.2, .inr ⟨H.out.2.1, ss, H.out.2.2.1, H.out.2.2.2.1, .inr ⟨H.out.2.2.2.2, rfl⟩⟩⟩⟩

end Go.Proofs.YtklagnmkfbjagaaGreatDoor
