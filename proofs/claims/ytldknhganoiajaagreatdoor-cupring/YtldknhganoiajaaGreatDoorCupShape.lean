/- The text of a face: a byte for each vertex. What Faces and Vector answer of a complex, whichever it is. What Faces answers, in memory of the caller's own. The shape of a complex: its faces' texts by dimension, and the number of each. -/
import Derived.Test.YtldknhganoiajaaGreatDoorValues
import Derived.Test.YtldknhganoiajaaGreatDoorCupRow
import Derived.Test.YtldknhganoiajaaGreatDoorCupRowOf
import Derived.Test.YtldknhganoiajaaGreatDoorVector
namespace Go.Proofs.YtldknhganoiajaaGreatDoor
open Go.RowKit Go.Sort

/-- The text of a face. -/
def txt (x : List Int) : List UInt8 := x.map (fun v => UInt8.ofNat v.toNat)
theorem txt_len (x : List Int) : (txt x).length = x.length := by simp [txt]
theorem byte_back {v : Int} (h : 0 ≤ v ∧ v ≤ 99) : ((UInt8.ofNat v.toNat).toNat : Int) = v := by
  rw [UInt8.toNat_ofNat']
  omega
theorem ints_txt {x : List Int} (h : ∀ v ∈ x, 0 ≤ v ∧ v ≤ 99) : ints (txt x) = x := by
  unfold ints txt
  rw [List.map_map]
  conv => rhs; rw [← List.map_id x]
  exact List.map_congr_left (fun v hv => byte_back (h v hv))
theorem txt_inj {x y : List Int} (hx : ∀ v ∈ x, 0 ≤ v ∧ v ≤ 99) (hy : ∀ v ∈ y, 0 ≤ v ∧ v ≤ 99) (e : txt x = txt y) : x = y := by rw [← ints_txt hx, e, ints_txt hy]
theorem txt_take {x : List Int} {k : Nat} (hk : k < x.length) : (txt (x.take (k + 1))).map (fun b => Value.int .u8 (b.toNat : Int)) = (txt (x.take k)).map (fun b => Value.int .u8 (b.toNat : Int)) ++ [.int .u8 ((UInt8.ofNat (x[k]?.getD 0).toNat).toNat : Int)] := by
  rw [take_co hk]; simp [txt]

set_option maxRecDepth 100000 in
set_option maxHeartbeats 1000000 in
theorem textOf_ (vf : Value) (f : List Int) (w : World) (hf : Ints w vf f) (hl : f.length ≤ 60) (hv : ∀ v ∈ f, 0 ≤ v ∧ v ≤ 99) :
    Calls Tryz.prog 34 #[vf] w fun e w' => e = .returned (encStr (txt f)) ∧ Below w.heap.size w w' := by
  obtain ⟨i0, hi, hz0, hz1, hz2⟩ := info_parts Tryz.info5
  obtain ⟨a, c, rfl, -, hx⟩ := hf.open_
  have HX := Hid.mk' hx
  obtain ⟨m, hm⟩ : ∃ m, f.length = m := ⟨_, rfl⟩
  have HM := Hid.mk' hm
  have HV := Hid.mk' hv
  obtain ⟨s, hs⟩ : ∃ s : ByteArray, encStr (txt f) = .string s := ⟨_, rfl⟩
  have HS := Hid.mk' hs
  rw [hm] at hl hx ⊢
  rw [hs]
  clear hm hf hx hv hs
  go_enter Tryz.func34, Tryz.ntmps34
  go_wp2_with fail
  go_loopw [8, 3] (fun p v W => ∃ k : Nat, k ≤ m ∧ p = .int .i64 (k : Int) ∧ Hid (W.ownsRow w.heap.size 5 1 v k ((txt (f.take k)).map (fun b => Value.int .u8 (b.toNat : Int))) ∧ Below w.heap.size w W)) (fun p _ _ => m - (intOf p).toNat)
  case atStart => exact ⟨0, by omega, rfl, World.ownsRow_nil _ _ _ _, Below.refl _ _⟩
  case round =>
    obtain ⟨k, hk, rfl, HR⟩ := hrel
    obtain ⟨a3, c3, rfl⟩ := own_form HR.out.1
    by_cases hlt : k < m
    · have hkf : k < f.length := by rw [HM.out]; exact hlt
      obtain ⟨b, o, rfl, -, hbl, hcs⟩ := HX.out (by omega)
      have g1 := (HR.out.2.cell (p := ⟨b, o + k, none⟩) hbl).trans (hcs k (by omega))
      obtain ⟨x, hxk⟩ : ∃ x, f[k]?.getD 0 = x := ⟨_, rfl⟩
      have hxb : 0 ≤ x ∧ x ≤ 99 := HV.out x (by rw [← hxk, List.getElem?_eq_getElem hkf]; exact List.getElem_mem hkf)
      have HK := Hid.mk' hxk
      rw [hxk] at g1
      have e1 : IntKind.u8.wrap x = x := by simp [IntKind.wrap, IntKind.signed, IntKind.bits]; omega
      have HBB : Hid (((UInt8.ofNat x.toNat).toNat : Int) = x) := byte_back hxb
      clear hcs hbl hxk
      go_wp2_with (first
        | (at_builtin; refine wpList_append_slice rfl (.tmp 12) (.tmp 15) 106 rfl w.heap.size 5 i0 (.int .u8 0) 1 Tryz.underlying106 hi hz0 hz1 hz2 rfl _ _ _ rfl (HR.out.1.alloc _) _ [.int .u8 x] rfl (slice_one _ _ _) (by simp [Value.oneCell']) (by simp; omega) (by unfold maxLen; simp; omega) (by have := HR.out.2.size; simp; omega) ?_; intro v4 w4 hown4 hg4 hl4)
        | fail)
      (try go_frame)
      have hown5 : w4.ownsRow w.heap.size 5 1 v4 (k + 1) ((txt (f.take (k + 1))).map (fun b => Value.int .u8 (b.toNat : Int))) := by
        rw [txt_take hkf, HK.out, HBB.out]; exact hown4
      have HB4 : Hid (Below w.heap.size w w4) := (HR.out.2.alloc HR.out.2.size _).grown hg4 (by have := HR.out.2.size; simp; omega) (fun j hj => by have := (HR.out.1.lt j hj).1; omega)
      have HO5 := Hid.mk' hown5
      obtain ⟨a5, c5, rfl⟩ := own_form hown5
      clear hown4 hown5 hg4 hl4
      go_wp2_with fail
      go_roundw
      case rel => exact ⟨k + 1, by omega, by go_num, HO5.out, HB4.out⟩
      case measure => simp [intOf]; omega
    · have hkm : k = m := by omega
      subst hkm
      have hcv := convert_owned HR.out.1
      rw [← HM.out, List.take_length, HM.out] at hcv
      rw [HS.out] at hcv
      go_wp2_with fail
      go_ret
      exact ⟨rfl, HR.out.2⟩

end Go.Proofs.YtldknhganoiajaaGreatDoor

namespace Go.Proofs.YtldknhganoiajaaGreatDoor
open Go.RowKit Go.Sort Go.Maps Go.Deep

theorem told_small_dim {F ss : List (List UInt8)} {all : List (List Int)} (h : Told F all) (h2 : ss.Nodup) {dim : Int} (h3 : ∀ x, x ∈ ss ↔ x ∈ F ∧ (x.length : Int) - 1 = dim) : (srtS ss).length ≤ 100000 ∧ ∀ t ∈ srtS ss, t.length ≤ 1000 := by
  have e1 : (srtS ss).length = ss.length := (List.mergeSort_perm ss _).length_eq
  have := nodup_le h2 (fun x hx => ((h3 x).1 hx).1)
  have hf := h.few
  refine ⟨by omega, fun t ht => ?_⟩
  have := h.short t ((h3 t).1 ((List.mergeSort_perm ss _).mem_iff.1 ht)).1
  omega

/-- What Faces answers. -/
def FacesG (a : Nat → Addr) (l : List (List Int)) (dim : Int) (w : World) (e : Ending) (w' : World) : Prop :=
  Below w.heap.size w w' ∧ ((∃ i, BadAt l i ∧ e = .returned (.tuple #[.slice none 0 0, .iface 179 (.pointer (some (a i)))])) ∨
    ∃ all v, Good l all ∧ e = .returned (.tuple #[v, .nilIface]) ∧ Rows w' v (ofDim all dim))

set_option maxRecDepth 100000 in
set_option maxHeartbeats 1000000 in
theorem faces_call {a : Nat → Addr} {s : Nat → ByteArray} (vl : Value) (l : List (List Int)) (dim : Int) (w : World) (hE : Errs a s w) (hl : Rows w vl l) (hll : l.length ≤ 100000) (hle : ∀ x ∈ l, x.length ≤ 1000) :
    Calls Tryz.prog 33 #[.agg #[vl], .int .i64 dim] w fun e w' => FacesG a l dim w e w' := by
  obtain ⟨al, cl, rfl, -, -⟩ := hl.open_
  have hBa : Below w.heap.size w (w.alloc (.cells #[.slice al l.length cl] 31)) := (Below.refl _ w).alloc (Nat.le_refl _) _
  have hop := open_g _ l (w.alloc (.cells #[.slice al l.length cl] 31)) (hE.below hBa) (hl.below hBa) hll hle
  have hbc := (box_new w (.slice al l.length cl) 31).1
  clear hl
  go_enter Tryz.func33, Tryz.ntmps33
  go_wp2_with fail
  refine hop.mono ?_
  clear hop
  rintro e w2 ⟨hB2, ⟨i, hbad, rfl⟩ | ⟨all, b, F, G, hg, ht, rfl, hP, -⟩⟩
  · have HBD : Hid (BadAt l i) := hbad
    clear hbad
    go_wp2
    go_ret2
    exact ⟨below_out (below_after hB2 (Below.refl _ w2)), .inl ⟨i, HBD.out, rfl⟩⟩
  · have hfa := faces_ b F G dim w2 hP (by have := ht.few; omega) (fun x hx => by have := ht.short x hx; omega)
    have HG : Hid (Good l all ∧ Told F all) := ⟨hg, ht⟩
    clear hg ht hP
    go_wp2_with fail
    refine hfa.mono ?_
    clear hfa
    rintro e w3 ⟨v3, ss, rfl, h1, h2, h3, h4⟩
    have hsm := told_small_dim HG.out.2 h2 h3
    have hli := lists_ v3 (srtS ss) w3 (SliceIn.mono h1 (fun _ _ _ => trivial)) hsm.1 hsm.2
    have HD : Hid ((srtS ss).map ints = ofDim all dim) := told_dim HG.out.2 h2 h3
    have HB3 : Hid (Below w.heap.size w w3) := below_out (below_after hB2 h4)
    clear h1 h2 h3 h4 hsm
    go_wp2_with fail
    refine hli.mono ?_
    clear hli
    rintro e w4 ⟨v4, rfl, h5, h6⟩
    have hr := h5.rows
    rw [HD.out] at hr
    have HR : Hid (Rows w4 v4 (ofDim all dim)) := hr
    clear hr h5
    go_wp2
    go_ret2
    exact ⟨HB3.out.trans (h6.mono HB3.out.size), .inr ⟨all, v4, HG.out.1, rfl, HR.out⟩⟩

/-- What Vector answers. -/
def VectorG (a : Nat → Addr) (l : List (List Int)) (w : World) (e : Ending) (w' : World) : Prop :=
  Below w.heap.size w w' ∧ ((∃ i, BadAt l i ∧ e = .returned (.tuple #[.slice none 0 0, .iface 179 (.pointer (some (a i)))])) ∨
    ∃ all v, Good l all ∧ e = .returned (.tuple #[v, .nilIface]) ∧ Ints w' v (vecOf all))

set_option maxRecDepth 100000 in
set_option maxHeartbeats 1000000 in
theorem vector_call {a : Nat → Addr} {s : Nat → ByteArray} (vl : Value) (l : List (List Int)) (w : World) (hE : Errs a s w) (hl : Rows w vl l) (hll : l.length ≤ 100000) (hle : ∀ x ∈ l, x.length ≤ 1000) :
    Calls Tryz.prog 32 #[.agg #[vl]] w fun e w' => VectorG a l w e w' := by
  obtain ⟨al, cl, rfl, -, -⟩ := hl.open_
  have hBa : Below w.heap.size w (w.alloc (.cells #[.slice al l.length cl] 31)) := (Below.refl _ w).alloc (Nat.le_refl _) _
  have hop := open_g _ l (w.alloc (.cells #[.slice al l.length cl] 31)) (hE.below hBa) (hl.below hBa) hll hle
  have hbc := (box_new w (.slice al l.length cl) 31).1
  clear hl
  go_enter Tryz.func32, Tryz.ntmps32
  go_wp2_with fail
  refine hop.mono ?_
  clear hop
  rintro e w2 ⟨hB2, ⟨i, hbad, rfl⟩ | ⟨all, b, F, G, hg, ht, rfl, hP, -⟩⟩
  · have HBD : Hid (BadAt l i) := hbad
    clear hbad
    go_wp2
    go_ret2
    exact ⟨below_out (below_after hB2 (Below.refl _ w2)), .inl ⟨i, HBD.out, rfl⟩⟩
  · have hve := vector_ b F G w2 hP (by have := ht.few; omega) ht.nodup (fun x hx => by have := ht.short x hx; omega) ht.some_
    have HG : Hid (Good l all ∧ Told F all) := ⟨hg, ht⟩
    clear hg ht hP
    go_wp2_with fail
    refine hve.mono ?_
    clear hve
    rintro e w3 ⟨v3, rfl, h1, h4⟩
    have hr := h1.any
    rw [HG.out.2.vec] at hr
    have HR : Hid (Ints w3 v3 (vecOf all)) := hr
    clear hr h1
    go_wp2
    go_ret2
    exact ⟨below_out (below_after hB2 h4), .inr ⟨all, v3, HG.out.1, rfl, HR.out⟩⟩

end Go.Proofs.YtldknhganoiajaaGreatDoor

namespace Go.Proofs.YtldknhganoiajaaGreatDoor
open Go.RowKit Go.Sort Go.Maps Go.Deep

/-- What Faces answers of a complex. -/
def FacesH (a : Nat → Addr) (l : List (List Int)) (dim : Int) (w : World) (e : Ending) (w' : World) : Prop :=
  Below w.heap.size w w' ∧ ((∃ i, BadAt l i ∧ e = .returned (.tuple #[.slice none 0 0, .iface 179 (.pointer (some (a i)))])) ∨
    ∃ all v, Good l all ∧ e = .returned (.tuple #[v, .nilIface]) ∧ OwnRows w.heap.size w' v (ofDim all dim))

set_option maxRecDepth 100000 in
set_option maxHeartbeats 1000000 in
theorem faces_own {a : Nat → Addr} {s : Nat → ByteArray} (vl : Value) (l : List (List Int)) (dim : Int) (w : World) (hE : Errs a s w) (hl : Rows w vl l) (hll : l.length ≤ 100000) (hle : ∀ x ∈ l, x.length ≤ 1000) :
    Calls Tryz.prog 33 #[.agg #[vl], .int .i64 dim] w fun e w' => FacesH a l dim w e w' := by
  obtain ⟨al, cl, rfl, -, -⟩ := hl.open_
  have hBa : Below w.heap.size w (w.alloc (.cells #[.slice al l.length cl] 31)) := (Below.refl _ w).alloc (Nat.le_refl _) _
  have hop := open_g _ l (w.alloc (.cells #[.slice al l.length cl] 31)) (hE.below hBa) (hl.below hBa) hll hle
  have hbc := (box_new w (.slice al l.length cl) 31).1
  clear hl
  go_enter Tryz.func33, Tryz.ntmps33
  go_wp2_with fail
  refine hop.mono ?_
  clear hop
  rintro e w2 ⟨hB2, ⟨i, hbad, rfl⟩ | ⟨all, b, F, G, hg, ht, rfl, hP, -⟩⟩
  · have HBD : Hid (BadAt l i) := hbad
    clear hbad
    go_wp2
    go_ret2
    exact ⟨below_out (below_after hB2 (Below.refl _ w2)), .inl ⟨i, HBD.out, rfl⟩⟩
  · have hfa := faces_ b F G dim w2 hP (by have := ht.few; omega) (fun x hx => by have := ht.short x hx; omega)
    have HG : Hid (Good l all ∧ Told F all) := ⟨hg, ht⟩
    clear hg ht hP
    go_wp2_with fail
    refine hfa.mono ?_
    clear hfa
    rintro e w3 ⟨v3, ss, rfl, h1, h2, h3, h4⟩
    have hsm := told_small_dim HG.out.2 h2 h3
    have hli := lists_ v3 (srtS ss) w3 (SliceIn.mono h1 (fun _ _ _ => trivial)) hsm.1 hsm.2
    have HD : Hid ((srtS ss).map ints = ofDim all dim) := told_dim HG.out.2 h2 h3
    have HB3 : Hid (Below w.heap.size w w3) := below_out (below_after hB2 h4)
    clear h1 h2 h3 h4 hsm
    go_wp2_with fail
    refine hli.mono ?_
    clear hli
    rintro e w4 ⟨v4, rfl, h5, h6⟩
    rw [HD.out] at h5
    have HR : Hid (OwnRows w.heap.size w4 v4 (ofDim all dim)) := h5.lower HB3.out.size
    clear h5
    go_wp2
    go_ret2
    exact ⟨HB3.out.trans (h6.mono HB3.out.size), .inr ⟨all, v4, HG.out.1, rfl, HR.out⟩⟩

end Go.Proofs.YtldknhganoiajaaGreatDoor

namespace Go.Proofs.YtldknhganoiajaaGreatDoor
open Go.RowKit Go.Sort Go.Maps

/-- A slice of slices of texts. -/
def TextRowsIn (S : Nat → Prop) (w : World) (v : Value) (xss : List (List (List UInt8))) : Prop :=
  ∃ vs : List Value, SliceIn S w v vs ∧ vs.length = xss.length ∧ ∀ (k : Nat) (u : Value) (x : List (List UInt8)), vs[k]? = some u → xss[k]? = some x → StrsIn S w u x
abbrev TextRows (w : World) (v : Value) (xss : List (List (List UInt8))) : Prop := TextRowsIn anyBlock w v xss
theorem TextRowsIn.below {S : Nat → Prop} {w w' : World} {v : Value} {xss : List (List (List UInt8))} (h : TextRowsIn S w v xss) (hb : Below w.heap.size w w') : TextRowsIn S w' v xss := by
  obtain ⟨vs, h1, h2, h3⟩ := h
  exact ⟨vs, h1.below hb, h2, fun k u x hu hx => SliceIn.below (h3 k u x hu hx) hb⟩
theorem TextRowsIn.open_ {S : Nat → Prop} {w : World} {v : Value} {xss : List (List (List UInt8))} (h : TextRowsIn S w v xss) :
    ∃ a cap, v = .slice a xss.length cap ∧ (0 < xss.length → ∃ b off, a = some ⟨b, off, none⟩ ∧ b < w.heap.size ∧
      ∀ k, k < xss.length → ∃ a' cap', w.cell? ⟨b, off + k, none⟩ = some (.slice a' (xss[k]?.getD []).length cap') ∧ (0 < (xss[k]?.getD []).length → ∃ b' off', a' = some ⟨b', off', none⟩ ∧ b' < w.heap.size ∧ ∀ j, j < (xss[k]?.getD []).length → w.cell? ⟨b', off' + j, none⟩ = some (encStr ((xss[k]?.getD [])[j]?.getD [])))) := by
  obtain ⟨vs, ⟨a, cap, e, hc, hx⟩, hl, hr⟩ := h
  rw [hl] at e hc hx
  refine ⟨a, cap, e, fun h0 => ?_⟩
  obtain ⟨b, off, e1, e2, e3⟩ := hx h0
  have e4 : ∀ k, k < xss.length → ∃ a' cap', w.cell? ⟨b, off + k, none⟩ = some (.slice a' (xss[k]?.getD []).length cap') ∧ (0 < (xss[k]?.getD []).length → ∃ b' off', a' = some ⟨b', off', none⟩ ∧ b' < w.heap.size ∧ ∀ j, j < (xss[k]?.getD []).length → w.cell? ⟨b', off' + j, none⟩ = some (encStr ((xss[k]?.getD [])[j]?.getD []))) := fun k hk => by
    have hv : vs[k]? = some vs[k] := List.getElem?_eq_getElem (by omega)
    have hi := hr k _ xss[k] hv (List.getElem?_eq_getElem hk)
    have he : xss[k]?.getD [] = xss[k] := by simp [hk]
    obtain ⟨a', cap', ev, _, hcs⟩ := hi.open_
    rw [he]
    refine ⟨a', cap', by rw [e3 k _ hv, ev], fun h1 => ?_⟩
    obtain ⟨b', off', q1, -, q2, q3⟩ := hcs h1
    exact ⟨b', off', q1, q2, q3⟩
  obtain ⟨_, _, c0, _⟩ := e4 0 h0
  exact ⟨b, off, e1, cell_lt c0, e4⟩

/-- A row of the call's own whose elements are slices of texts that lie in other rows. -/
def OwnTexts (base : Nat) (w : World) (v : Value) (xss : List (List (List UInt8))) : Prop :=
  ∃ vs : List Value, w.ownsRow base 73 1 v xss.length vs ∧ ∀ (k : Nat) (u : Value) (x : List (List UInt8)), vs[k]? = some u → xss[k]? = some x → StrsIn (fun b => base ≤ b ∧ some b ≠ v.ownBlock) w u x

theorem OwnTexts.nil (base : Nat) (w : World) : OwnTexts base w (.slice none 0 0) [] := ⟨[], World.ownsRow_nil _ _ _ _, fun k u x hu => by simp at hu⟩
theorem OwnTexts.below {base : Nat} {w w' : World} {v : Value} {xss : List (List (List UInt8))} (h : OwnTexts base w v xss) (hB : Below w.heap.size w w') : OwnTexts base w' v xss := by
  obtain ⟨vs, h1, h2⟩ := h
  exact ⟨vs, h1.kept (Below.grownBy hB) (by cases v.ownBlock <;> simp), fun k u x hu hx => (h2 k u x hu hx).below hB⟩
theorem OwnTexts.rows {base : Nat} {w : World} {v : Value} {xss : List (List (List UInt8))} (h : OwnTexts base w v xss) : TextRows w v xss := by
  obtain ⟨vs, h1, h2⟩ := h
  exact ⟨vs, slice_of_owns h1 (fun _ _ _ => trivial), by have := h1.1; simpa using this, fun k u x hu hx => SliceIn.mono (h2 k u x hu hx) (fun _ _ _ => trivial)⟩
theorem OwnTexts.block {base : Nat} {w : World} {v : Value} {xss : List (List (List UInt8))} (h : OwnTexts base w v xss) {b : Nat} (hb : v.ownBlock = some b) : base ≤ b ∧ b < w.heap.size := by
  obtain ⟨vs, h1, _⟩ := h
  exact h1.lt b hb
/-- One more row, behind its append. -/
theorem OwnTexts.push {base : Nat} {w w3 : World} {v v' u : Value} {xss : List (List (List UInt8))} {x : List (List UInt8)} {vs : List Value} {o : Obj}
    (h1 : w.ownsRow base 73 1 v xss.length vs) (h2 : ∀ (k : Nat) (u : Value) (x : List (List UInt8)), vs[k]? = some u → xss[k]? = some x → StrsIn (fun b => base ≤ b ∧ some b ≠ v.ownBlock) w u x)
    (hu : StrsIn (fun b => base ≤ b ∧ some b ≠ v.ownBlock) w u x) (hown : w3.ownsRow base 73 1 v' (xss.length + 1) (vs ++ [u])) (hg : (w.alloc o).grownBy w3 v.ownBlock) (hl : v'.ownBlock = v.ownBlock ∨ v'.ownBlock = some (w.alloc o).heap.size) :
    OwnTexts base w3 v' (xss ++ [x]) := by
  have key : ∀ {u : Value} {x : List (List UInt8)}, StrsIn (fun b => base ≤ b ∧ some b ≠ v.ownBlock) w u x → StrsIn (fun b => base ≤ b ∧ some b ≠ v'.ownBlock) w3 u x := fun {u x} h => by
    have h' : StrsIn (fun b => base ≤ b ∧ some b ≠ v.ownBlock ∧ some b ≠ v'.ownBlock) w u x := SliceIn.mono h (fun b hb hne => ⟨hne.1, hne.2, fun e => by
      rcases hl with hl | hl
      · exact hne.2 (e.trans hl)
      · rw [hl] at e; simp at e; omega⟩)
    have h'' : StrsIn (fun b => base ≤ b ∧ some b ≠ v.ownBlock ∧ some b ≠ v'.ownBlock) w3 u x := SliceIn.keep h' (fun b hb hne => by
      rw [hg.block b (by simp; omega) hne.2.1]
      exact (World.grownBy_alloc w o none).block b hb (by simp))
    exact SliceIn.mono h'' (fun b _ hne => ⟨hne.1, hne.2.2⟩)
  have hvl : vs.length = xss.length := by have := h1.1; simpa using this
  refine ⟨vs ++ [u], by simpa using hown, fun k u' x' hu' hx' => ?_⟩
  rw [List.getElem?_append] at hu' hx'
  rw [hvl] at hu'
  by_cases hk : k < xss.length
  · rw [if_pos hk] at hu' hx'
    exact key (h2 k u' x' hu' hx')
  · rw [if_neg hk] at hu' hx'
    have h0 : k - xss.length = 0 := by
      rcases Nat.eq_zero_or_pos (k - xss.length) with h | h
      · exact h
      · rw [List.getElem?_eq_none (by simp; omega)] at hu'; cases hu'
    rw [h0] at hu' hx'
    simp at hu' hx'
    subst hu'; subst hx'
    exact key hu


/-- The texts of all faces, by dimension. -/
def facesT (all : List (List Int)) : List (List (List UInt8)) := (List.range (topN all)).map (fun d => (ofDim all ((d : Nat) : Int)).map txt)
/-- The number of a face among those of its dimension. -/
def idxF (all : List (List Int)) (x : List Int) : Nat := (ofDim all ((x.length : Int) - 1)).idxOf x
/-- Block g is a map that tells the numbers of these faces. -/
def NumAt (w : World) (g : Nat) (all L : List (List Int)) : Prop :=
  ∃ D : DataW Unit, w.ownsMap Tryz.prog 9 (plainElem Tryz.prog 3) g L.length D ∧ ∀ x ∈ L, D.atKey (.string (txt x)) (.lit (.int .i64 0)) = .lit (.int .i64 (idxF all x : Int))
theorem NumAt.kept {w w' : World} {g : Nat} {all L : List (List Int)} {row : Option Nat} (h : NumAt w g all L) (hg : w.grownBy w' row) (hne : some g ≠ row) : NumAt w' g all L := by
  obtain ⟨D, h1, h2⟩ := h
  exact ⟨D, h1.kept hg hne, h2⟩
theorem NumAt.below {w w' : World} {g : Nat} {all L : List (List Int)} (h : NumAt w g all L) (hB : Below w.heap.size w w') : NumAt w' g all L := h.kept (Below.grownBy hB) (by simp)
theorem NumAt.lt {w : World} {g : Nat} {all L : List (List Int)} (h : NumAt w g all L) : g < w.heap.size := by
  obtain ⟨D, h1, _⟩ := h
  exact h1.lt
theorem NumAt.apart {w : World} {g : Nat} {all L : List (List Int)} (h : NumAt w g all L) {p : Addr} {v : Value} (hc : w.cell? p = some v) : p.block ≠ g := fun e => by
  obtain ⟨D, ⟨es, clock, h1, -⟩, -⟩ := h
  rw [← e] at h1
  simp [World.cell?, h1] at hc
/-- The shape of a complex as a value. -/
def ShapeAt (w : World) (v : Value) (all : List (List Int)) : Prop :=
  ∃ vF g L, v = .agg #[vF, .map (some g)] ∧ TextRows w vF (facesT all) ∧ (∀ x ∈ all, x ∈ L) ∧ NumAt w g all L
theorem ShapeAt.below {w w' : World} {v : Value} {all : List (List Int)} (h : ShapeAt w v all) (hB : Below w.heap.size w w') : ShapeAt w' v all := by
  obtain ⟨vF, g, L, e, h1, hL, h2⟩ := h
  exact ⟨vF, g, L, e, h1.below hB, hL, h2.below hB⟩

theorem TextRowsIn.mono {S S' : Nat → Prop} {w : World} {v : Value} {xss : List (List (List UInt8))} (h : TextRowsIn S w v xss) (hs : ∀ b, b < w.heap.size → S b → S' b) : TextRowsIn S' w v xss := by
  obtain ⟨vs, h1, h2, h3⟩ := h
  exact ⟨vs, h1.mono hs, h2, fun k u x hu hx => SliceIn.mono (h3 k u x hu hx) hs⟩
theorem TextRowsIn.kept {S : Nat → Prop} {w w' : World} {v : Value} {xss : List (List (List UInt8))} {row : Option Nat} (h : TextRowsIn S w v xss) (hg : w.grownBy w' row) (hr : ∀ b, S b → some b ≠ row) : TextRowsIn S w' v xss := by
  obtain ⟨vs, h1, h2, h3⟩ := h
  exact ⟨vs, h1.keep (fun b hb hs => hg.block b hb (hr b hs)), h2, fun k u x hu hx => SliceIn.keep (h3 k u x hu hx) (fun b hb hs => hg.block b hb (hr b hs))⟩
theorem OwnTexts.rowsIn {base : Nat} {w : World} {v : Value} {xss : List (List (List UInt8))} (h : OwnTexts base w v xss) : TextRowsIn (fun b => base ≤ b) w v xss := by
  obtain ⟨vs, h1, h2⟩ := h
  exact ⟨vs, slice_of_owns h1 (fun _ h _ => h), by have := h1.1; simpa using this, fun k u x hu hx => SliceIn.mono (h2 k u x hu hx) (fun _ _ h => h.1)⟩
/-- A shape that lies in blocks of S. -/
def ShapeS (S : Nat → Prop) (w : World) (v : Value) (all : List (List Int)) : Prop :=
  ∃ vF g L, v = .agg #[vF, .map (some g)] ∧ TextRowsIn S w vF (facesT all) ∧ (∀ x ∈ all, x ∈ L) ∧ NumAt w g all L ∧ S g
theorem ShapeS.at {S : Nat → Prop} {w : World} {v : Value} {all : List (List Int)} (h : ShapeS S w v all) : ShapeAt w v all := by
  obtain ⟨vF, g, L, e, h1, hL, h2, -⟩ := h
  exact ⟨vF, g, L, e, h1.mono (fun _ _ _ => trivial), hL, h2⟩
theorem ShapeS.mono {S S' : Nat → Prop} {w : World} {v : Value} {all : List (List Int)} (h : ShapeS S w v all) (hs : ∀ b, b < w.heap.size → S b → S' b) : ShapeS S' w v all := by
  obtain ⟨vF, g, L, e, h1, hL, h2, h3⟩ := h
  exact ⟨vF, g, L, e, h1.mono hs, hL, h2, hs g h2.lt h3⟩
theorem ShapeS.kept {S : Nat → Prop} {w w' : World} {v : Value} {all : List (List Int)} {row : Option Nat} (h : ShapeS S w v all) (hg : w.grownBy w' row) (hr : ∀ b, S b → some b ≠ row) : ShapeS S w' v all := by
  obtain ⟨vF, g, L, e, h1, hL, h2, h3⟩ := h
  exact ⟨vF, g, L, e, h1.kept hg hr, hL, h2.kept hg (hr g h3), h3⟩
theorem ShapeS.below {S : Nat → Prop} {w w' : World} {v : Value} {all : List (List Int)} (h : ShapeS S w v all) (hB : Below w.heap.size w w') : ShapeS S w' v all := h.kept (Below.grownBy hB) (fun _ _ => by simp)

end Go.Proofs.YtldknhganoiajaaGreatDoor
