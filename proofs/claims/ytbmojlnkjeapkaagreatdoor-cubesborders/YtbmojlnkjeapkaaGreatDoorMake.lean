/- What told answers: the complex of the facets that a map of faces tells. What Make answers: the complex of any sets, by its facets, or which error they have. -/
import Derived.Test.YtbmojlnkjeapkaaGreatDoorLists
namespace Go.Proofs.YtbmojlnkjeapkaaGreatDoor
open Go.RowKit Go.Sort Go.Maps Go.Deep

/-- What told answers. -/
def ToldSays (F : List (List UInt8)) (G : List UInt8 → Prop) (w : World) (e : Ending) (w' : World) : Prop :=
  ∃ v ss, e = .returned (.agg #[v]) ∧ OwnRows w.heap.size w' v ((srtS ss).map ints) ∧ ss.Nodup ∧ (∀ x, x ∈ ss ↔ x ∈ F ∧ ¬ G x) ∧ Below w.heap.size w w'

theorem OwnRows.lower {base base' : Nat} {w : World} {v : Value} {xss : List (List Int)} (h : OwnRows base w v xss) (hb : base' ≤ base) : OwnRows base' w v xss := by
  obtain ⟨vs, ⟨h1, h2⟩, h3⟩ := h
  refine ⟨vs, ⟨h1, ?_⟩, fun k u x hu hx => SliceIn.mono (h3 k u x hu hx) (fun b _ h => ⟨Nat.le_trans hb h.1, h.2⟩)⟩
  rcases h2 with h2 | ⟨g, cap, cur, e1, e2, e3⟩
  · exact .inl h2
  · exact .inr ⟨g, cap, cur, e1, Nat.le_trans hb e2, e3⟩

theorem OwnRows.setCell {base : Nat} {w : World} {v : Value} {xss : List (List Int)} (h : OwnRows base w v xss) {p : Addr} (hp : p.block < base) (u : Value) : OwnRows base (w.setCell p u) v xss := by
  obtain ⟨vs, h1, h3⟩ := h
  refine ⟨vs, ownsRow_setCell_below h1 hp u, fun k u' x hu hx => SliceIn.keep (h3 k u' x hu hx) (fun b _ h => ?_)⟩
  exact blk_setCell_other w p u b (fun e => by omega)

set_option maxRecDepth 100000 in
theorem told_ (b : Nat) (F : List (List UInt8)) (G : List UInt8 → Prop) (w : World) (hP : PileAt w b F G) (hF : F.length ≤ 100000) (hx : ∀ x ∈ F, x.length ≤ 1000) :
    Calls Tryz.prog 39 #[.map (some b)] w fun e w' => ToldSays F G w e w' := by
  have hP1 := hP.below ((Below.refl _ w).alloc (Nat.le_refl _) (.cells #[.slice none 0 0] 28))
  have hfac := facets_ b F G (w.alloc (.cells #[.slice none 0 0] 28)) hP1 hF hx
  clear hP1
  have hbox := box_new w (.slice none 0 0) 28
  go_enter Tryz.func39, Tryz.ntmps39
  go_wp2_with fail
  refine hfac.mono ?_
  rintro e w2 ⟨v, ss, rfl, h1, h2, h3, h4⟩
  have hmm : ∀ t ∈ srtS ss, t ∈ F := fun t ht => ((h3 t).1 ((List.mergeSort_perm ss _).mem_iff.1 ht)).1
  have hlen : (srtS ss).length ≤ 100000 := by
    have e1 : (srtS ss).length = ss.length := (List.mergeSort_perm ss _).length_eq
    have := nodup_le h2 (fun x hx => ((h3 x).1 hx).1)
    omega
  have hlis := lists_ v (srtS ss) w2 (SliceIn.mono h1 (fun _ _ _ => trivial)) hlen (fun t ht => hx t (hmm t ht))
  go_wp2_with fail
  refine hlis.mono ?_
  rintro e w3 ⟨v3, rfl, h5, h6⟩
  have hB3 : Below (w.heap.size + 1) (w.alloc (.cells #[.slice none 0 0] 28)) w3 := by
    have h4' := h4
    rw [World.size_alloc] at h4'
    exact h4'.trans (h6.mono (by have := h4.size; simp at this; omega))
  have c1 : w3.cell? ⟨w.heap.size, 0, none⟩ = some (.slice none 0 0) := (hB3.cell (p := ⟨w.heap.size, 0, none⟩) (by simp)).trans hbox.1
  have z1 : w3.frozen? ⟨w.heap.size, 0, none⟩ = false := (hB3.frozen (p := ⟨w.heap.size, 0, none⟩) (by simp)).trans hbox.2
  have H5 : Hid (OwnRows w2.heap.size w3 v3 ((srtS ss).map ints)) := h5
  obtain ⟨a3, c3, rfl, -, -⟩ := h5.rows.open_
  clear h5 hfac hlis hlen hmm h1
  go_wp2
  have c2 := World.cell?_setCell_same' w3 ⟨w.heap.size, 0, none⟩ (.slice a3 ((srtS ss).map ints).length c3) (by rw [c1]; rfl)
  rw [List.length_map] at c2
  refine bodyPost_ret (v := .agg #[.slice a3 (srtS ss).length c3]) ?_ rfl ?_
  · simp [results, Tryz.f39, go_sem, c2]
  · have h5 := H5.out
    rw [List.length_map] at h5
    refine ⟨_, ss, rfl, ?_, h2, h3, ?_⟩
    · exact (h5.setCell (p := ⟨w.heap.size, 0, none⟩) (by have := h4.size; simp at this; show w.heap.size < w2.heap.size; omega) _).lower (by have := h4.size; simp at this; omega)
    · exact (((Below.refl _ w).alloc (Nat.le_refl _) _).trans (hB3.mono (by omega))).setCell (p := ⟨w.heap.size, 0, none⟩) (Nat.le_refl _) _

end Go.Proofs.YtbmojlnkjeapkaaGreatDoor

namespace Go.Proofs.YtbmojlnkjeapkaaGreatDoor
open Go.RowKit Go.Sort Go.Maps Go.Deep

/-- What Make answers. -/
def MakeSays (a : Nat → Addr) (l : List (List Int)) (w : World) (e : Ending) (w' : World) : Prop :=
  Below w.heap.size w w' ∧ ((¬ (∀ x ∈ l, SetOk x) ∧ e = .returned (.tuple #[.agg #[.slice none 0 0], .iface 172 (.pointer (some (a 3)))])) ∨
    ((∀ x ∈ l, SetOk x) ∧ ∃ ts : List (List UInt8), ts.map ints = l.map srt ∧
      ((Over ts ∧ e = .returned (.tuple #[.agg #[.slice none 0 0], .iface 172 (.pointer (some (a 1)))])) ∨
       (¬ Over ts ∧ ∃ v ss, e = .returned (.tuple #[.agg #[v], .nilIface]) ∧ OwnRows w.heap.size w' v ((srtS ss).map ints) ∧ ss.Nodup ∧ ∀ x, x ∈ ss ↔ FaceOf ts x ∧ ¬ InnerOf ts x))))

theorem below_after {w w1 w2 : World} {o : Obj} (h1 : Below (w.alloc o).heap.size (w.alloc o) w1) (h2 : Below w1.heap.size w1 w2) : Below (w.heap.size + 1) (w.alloc o) w2 := by
  rw [World.size_alloc] at h1
  exact h1.trans (h2.mono (by have := h1.size; simp at this; omega))
theorem below_out {w w1 : World} {o : Obj} (h1 : Below (w.heap.size + 1) (w.alloc o) w1) : Below w.heap.size w w1 :=
  ((Below.refl _ w).alloc (Nat.le_refl _) o).trans (h1.mono (by omega))

set_option maxRecDepth 100000 in
set_option maxHeartbeats 1000000 in
theorem make_ {a : Nat → Addr} {s : Nat → ByteArray} (vl : Value) (l : List (List Int)) (w : World) (hE : Errs a s w) (hl : Rows w vl l) (hll : l.length ≤ 100000) (hle : ∀ x ∈ l, x.length ≤ 1000) :
    Calls Tryz.prog 23 #[vl] w fun e w' => MakeSays a l w e w' := by
  have hBa : Below w.heap.size w (w.alloc (.cells #[.slice none 0 0] 28)) := (Below.refl _ w).alloc (Nat.le_refl _) _
  have hgat := gather_ vl l (w.alloc (.cells #[.slice none 0 0] 28)) (hE.below hBa) (hl.below hBa) hll hle
  have hbox := box_new w (.slice none 0 0) 28
  clear hl
  go_enter Tryz.func23, Tryz.ntmps23
  go_wp2_with fail
  refine hgat.mono ?_
  rintro e w2 ⟨hB2, ⟨hno, rfl⟩ | ⟨hok, ts, hts, ⟨b, F, G, rfl, hP, hH⟩ | ⟨hov, rfl⟩⟩⟩
  · have hB3 := below_after hB2 (Below.refl _ w2)
    have c1 : w2.cell? ⟨w.heap.size, 0, none⟩ = some (.slice none 0 0) := (hB3.cell (p := ⟨w.heap.size, 0, none⟩) (by simp)).trans hbox.1
    have z1 : w2.frozen? ⟨w.heap.size, 0, none⟩ = false := (hB3.frozen (p := ⟨w.heap.size, 0, none⟩) (by simp)).trans hbox.2
    have c2 := World.cell?_setCell_same' w2 ⟨w.heap.size, 0, none⟩ (.slice none 0 0) (by rw [c1]; rfl)
    clear hgat
    go_wp2
    refine bodyPost_ret (v := .tuple #[.agg #[.slice none 0 0], .iface 172 (.pointer (some (a 3)))]) ?_ rfl ?_
    · simp [results, Tryz.f23, go_sem, c2]
    · exact ⟨(below_out hB3).setCell (p := ⟨w.heap.size, 0, none⟩) (Nat.le_refl _) _, .inl ⟨hno, rfl⟩⟩
  · have hfew := (hH.pile 0).few
    have hsh := (hH.pile 0).short
    have htold := told_ b F G w2 hP (by omega) (fun x hx => by have := hsh x hx; omega)
    have HH : Hid (Heaped ts F G) := hH
    have HOK : Hid ((∀ x ∈ l, SetOk x) ∧ ts.map ints = l.map srt) := ⟨hok, hts⟩
    clear hgat hP hH hsh hok hts hfew
    go_wp2_with fail
    refine htold.mono ?_
    rintro e w3 ⟨v, ss, rfl, h1, h2, h3, h4⟩
    have H1 : Hid (OwnRows w2.heap.size w3 v ((srtS ss).map ints)) := h1
    obtain ⟨a3, c3, rfl, -, -⟩ := h1.rows.open_
    have hB3 := below_after hB2 h4
    have c1 : w3.cell? ⟨w.heap.size, 0, none⟩ = some (.slice none 0 0) := (hB3.cell (p := ⟨w.heap.size, 0, none⟩) (by simp)).trans hbox.1
    have z1 : w3.frozen? ⟨w.heap.size, 0, none⟩ = false := (hB3.frozen (p := ⟨w.heap.size, 0, none⟩) (by simp)).trans hbox.2
    have c2 := World.cell?_setCell_same' w3 ⟨w.heap.size, 0, none⟩ (.slice a3 ((srtS ss).map ints).length c3) (by rw [c1]; rfl)
    rw [List.length_map] at c2
    clear htold h1
    go_wp2
    refine bodyPost_ret (v := .tuple #[.agg #[.slice a3 (srtS ss).length c3], .nilIface]) ?_ rfl ?_
    · simp [results, Tryz.f23, go_sem, c2]
    · have h1 := H1.out
      rw [List.length_map] at h1
      refine ⟨(below_out hB3).setCell (p := ⟨w.heap.size, 0, none⟩) (Nat.le_refl _) _, .inr ⟨HOK.out.1, ts, HOK.out.2, .inr ⟨HH.out.notOver, _, ss, rfl, ?_, h2, fun x => ?_⟩⟩⟩
      · exact (h1.setCell (p := ⟨w.heap.size, 0, none⟩) (by have := hB2.size; simp at this; show w.heap.size < w2.heap.size; omega) _).lower (by have := hB2.size; simp at this; omega)
      · rw [h3, HH.out.mem, HH.out.memG]
  · have hB3 := below_after hB2 (Below.refl _ w2)
    have c1 : w2.cell? ⟨w.heap.size, 0, none⟩ = some (.slice none 0 0) := (hB3.cell (p := ⟨w.heap.size, 0, none⟩) (by simp)).trans hbox.1
    have z1 : w2.frozen? ⟨w.heap.size, 0, none⟩ = false := (hB3.frozen (p := ⟨w.heap.size, 0, none⟩) (by simp)).trans hbox.2
    have c2 := World.cell?_setCell_same' w2 ⟨w.heap.size, 0, none⟩ (.slice none 0 0) (by rw [c1]; rfl)
    have HOK : Hid (((∀ x ∈ l, SetOk x) ∧ ts.map ints = l.map srt) ∧ Over ts) := ⟨⟨hok, hts⟩, hov⟩
    clear hgat hok hts hov
    go_wp2
    refine bodyPost_ret (v := .tuple #[.agg #[.slice none 0 0], .iface 172 (.pointer (some (a 1)))]) ?_ rfl ?_
    · simp [results, Tryz.f23, go_sem, c2]
    · exact ⟨(below_out hB3).setCell (p := ⟨w.heap.size, 0, none⟩) (Nat.le_refl _) _, .inr ⟨HOK.out.1.1, ts, HOK.out.1.2, .inl ⟨HOK.out.2, rfl⟩⟩⟩

end Go.Proofs.YtbmojlnkjeapkaaGreatDoor
