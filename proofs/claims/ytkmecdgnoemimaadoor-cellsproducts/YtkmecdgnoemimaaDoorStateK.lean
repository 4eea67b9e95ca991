/- What the reference's ProductSets answers. What the statements' is answers of a complex and an error that are as they should be: true. What ComplexError answers, with the error's value. An error's value and number, and what the statements' helpers answer of them. -/
import Derived.Test.YtkmecdgnoemimaaDoorGrow
import Derived.Test.YtkmecdgnoemimaaDoorOpen
import Derived.Test.YtkmecdgnoemimaaDoorKind0
import Derived.Test.YtkmecdgnoemimaaDoorKept2
namespace Go.Proofs.YtkmecdgnoemimaaDoor
open Go.RowKit Go.Shelf Go.Sort Go.Maps Go.Deep

theorem six_row (W : World) (a b c d e f : Value) (t : TypeId) : (W.alloc (.cells #[a, b, c, d, e, f] t)).cell? ⟨W.heap.size, 0, none⟩ = some a ∧ (W.alloc (.cells #[a, b, c, d, e, f] t)).cell? ⟨W.heap.size, 1, none⟩ = some b ∧
    (W.alloc (.cells #[a, b, c, d, e, f] t)).cell? ⟨W.heap.size, 2, none⟩ = some c ∧ (W.alloc (.cells #[a, b, c, d, e, f] t)).cell? ⟨W.heap.size, 3, none⟩ = some d ∧ (W.alloc (.cells #[a, b, c, d, e, f] t)).cell? ⟨W.heap.size, 4, none⟩ = some e ∧
    (W.alloc (.cells #[a, b, c, d, e, f] t)).cell? ⟨W.heap.size, 5, none⟩ = some f ∧ (W.alloc (.cells #[a, b, c, d, e, f] t)).frozen? ⟨W.heap.size, 5, none⟩ = false := by
  have h := World.alloc_heap_new W (.cells #[a, b, c, d, e, f] t)
  refine ⟨?_, ?_, ?_, ?_, ?_, ?_, ?_⟩
  · unfold World.cell?; rw [h]; rfl
  · unfold World.cell?; rw [h]; rfl
  · unfold World.cell?; rw [h]; rfl
  · unfold World.cell?; rw [h]; rfl
  · unfold World.cell?; rw [h]; rfl
  · unfold World.cell?; rw [h]; rfl
  · unfold World.frozen?; rw [h]; rfl

set_option maxRecDepth 100000 in
set_option maxHeartbeats 4000000 in
theorem sets_ {la lb : List (List Int)} (va vb : Value) (p q : List (List Int)) (ga : Good la p) (gb : Good lb q) (w : World) (ha : Rows w va p) (hb : Rows w vb q) :
    Calls Tryd.prog 12 #[va, vb, .int .i64 600] w fun e w' => ∃ a c, e = .returned (.slice a (List.length ((prodS p q).take 601)) c) ∧ Rows w' (.slice a ((prodS p q).take 601).length c) ((prodS p q).take 601) ∧ Below w.heap.size w w' := by
  have hp := ga.length
  have hq := gb.length
  have hv := vertices_ va p w ha (by omega)
  have HA : Hid (Rows w va p ∧ Rows w vb q) := ⟨ha, hb⟩
  have HG : Hid (Good la p ∧ Good lb q) := ⟨ga, gb⟩
  obtain ⟨aa, ca, rfl, -, -⟩ := ha.open_
  obtain ⟨ab, cb, rfl, -, -⟩ := hb.open_
  clear ha hb ga gb
  go_enter Tryd.func12, Tryd.ntmps12
  go_wp2_with fail
  refine hv.mono ?_
  clear hv
  rintro e w2 ⟨v2, rfl, hi2, hB2⟩
  have hv' := vertices_ (.slice ab q.length cb) q w2 (HA.out.2.below hB2) (by omega)
  have HI2 : Hid (IntsIn (fun b => w.heap.size ≤ b) w2 v2 (vertI p)) := hi2
  obtain ⟨a2, c2, rfl, -, -⟩ := hi2.open_
  clear hi2
  go_wp2_with fail
  refine hv'.mono ?_
  clear hv'
  rintro e w3 ⟨v3, rfl, hi3, hB3⟩
  have hB23 : Below w.heap.size w w3 := hB2.trans (hB3.mono hB2.size)
  have HI3 : Hid (Ints w3 (.slice a2 (vertI p).length c2) (vertI p)) := SliceIn.mono (HI2.out.below hB3) (fun _ _ _ => trivial)
  have HI4 : Hid (Ints w3 v3 (vertI q)) := SliceIn.mono hi3 (fun _ _ _ => trivial)
  obtain ⟨a3, c3, rfl, -, -⟩ := hi3.open_
  obtain ⟨V, hV⟩ : ∃ V, vertI p = V := ⟨_, rfl⟩
  obtain ⟨Wv, hW⟩ : ∃ Wv, vertI q = Wv := ⟨_, rfl⟩
  have hVl : V.length ≤ 100 := by rw [← hV]; exact HG.out.1.vlen
  have hWl : Wv.length ≤ 100 := by rw [← hW]; exact HG.out.2.vlen
  have HPS : Hid (prodS p q = growL p q V Wv (V.length + Wv.length + 2) [] 0 0 [] []) := by
    show _ = _
    rw [← hV, ← hW]; rfl
  rw [hV] at HI3 ⊢
  rw [hW] at HI4 ⊢
  have hBa : Below w3.heap.size w3 (w3.alloc (.cells #[.slice aa p.length ca, .slice ab q.length cb, .slice a2 V.length c2, .slice a3 Wv.length c3, .int .i64 600, .slice none 0 0] 65)) := (Below.refl _ w3).alloc (Nat.le_refl _) _
  have hS : GrowS w3.heap.size w3 (.slice aa p.length ca) (.slice ab q.length cb) (.slice a2 V.length c2) (.slice a3 Wv.length c3) (w3.alloc (.cells #[.slice aa p.length ca, .slice ab q.length cb, .slice a2 V.length c2, .slice a3 Wv.length c3, .int .i64 600, .slice none 0 0] 65)) (.slice none 0 0) [] :=
    ⟨hBa, (six_row w3 _ _ _ _ _ _ _).1, (six_row w3 _ _ _ _ _ _ _).2.1, (six_row w3 _ _ _ _ _ _ _).2.2.1, (six_row w3 _ _ _ _ _ _ _).2.2.2.1, (six_row w3 _ _ _ _ _ _ _).2.2.2.2.1, (six_row w3 _ _ _ _ _ _ _).2.2.2.2.2.1, (six_row w3 _ _ _ _ _ _ _).2.2.2.2.2.2, OwnRows.nil _ _⟩
  have hgr := grow_ w3.heap.size w3 rfl p q V Wv (.slice aa p.length ca) (.slice ab q.length cb) (.slice a2 V.length c2) (.slice a3 Wv.length c3) hp hq (fun x hx => by have := HG.out.1.short x hx; omega) (fun x hx => by have := HG.out.2.short x hx; omega) hVl hWl
    (HA.out.1.below hB23) (HA.out.2.below hB23) HI3.out HI4.out (V.length + Wv.length + 2) (.slice none 0 0) (.slice none 0 0) (.slice none 0 0) (.slice none 0 0) [] [] [] 0 0 [] _ hS
    ⟨SetIn.nil _ _ _, SetIn.nil _ _ _, SetIn.nil _ _ _, List.Pairwise.nil, List.Pairwise.nil, by simp; omega, by simp; omega, by simp; omega, Nat.zero_le _, Nat.zero_le _, by simp, by simp⟩
  rw [← HPS.out] at hgr
  have HB0 : Hid (Below w.heap.size w w3) := hB23
  clear hS hi3 hV hW hB2 hB3 hB23
  go_wp2_with fail
  refine hgr.mono ?_
  clear hgr
  rintro e w4 ⟨vo, rfl, hG4⟩
  have k5 := hG4.st.c5
  have HG4 : Hid (GrowTo w3.heap.size w3 (.slice aa p.length ca) (.slice ab q.length cb) (.slice a2 V.length c2) (.slice a3 Wv.length c3) (w3.alloc (.cells #[.slice aa p.length ca, .slice ab q.length cb, .slice a2 V.length c2, .slice a3 Wv.length c3, .int .i64 600, .slice none 0 0] 65)) (.slice none 0 0) w4 vo (([] ++ prodS p q).take 601)) := hG4
  obtain ⟨ts, hts⟩ : ∃ ts, (prodS p q).take 601 = ts := ⟨_, rfl⟩
  rw [List.nil_append, hts] at HG4 hG4
  have HTS : Hid ((prodS p q).take 601 = ts) := hts
  obtain ⟨a9, c9, rfl, -, -⟩ := hG4.st.own.rows.open_
  clear hG4 hBa hts
  go_wp2
  go_ret
  rw [HTS.out]
  exact ⟨a9, c9, rfl, HG4.out.st.own.rows, HB0.out.trans (HG4.out.st.under.mono HB0.out.size)⟩

end Go.Proofs.YtkmecdgnoemimaaDoor

namespace Go.Proofs.YtkmecdgnoemimaaDoor
open Go.RowKit Go.Sort

set_option maxRecDepth 100000 in
theorem is_err {a : Nat → Addr} {s : Nat → ByteArray} (i : Nat) (hi : i < 8) (vw : Value) (w : World) (hE : Errs a s w) :
    Calls Tryd.prog 10 #[.agg #[.slice none 0 0], .iface 165 (.pointer (some (a i))), vw, .int .i64 ((i : Int) + 1)] w fun e w' => e = .returned (.bool true) ∧ Below w.heap.size w w' := by
  have hBa : Below w.heap.size w (w.alloc (.cells #[.slice none 0 0] 27)) := (Below.refl _ w).alloc (Nat.le_refl _) _
  have hco := coded_es (w.alloc (.cells #[.slice none 0 0] 27)) (hE.below hBa) i hi ((i : Int) + 1)
  rw [decide_eq_true rfl] at hco
  have hbox := (box_new w (.slice none 0 0) 27).1
  have hpos : (0 : Int) < (i : Int) + 1 := by omega
  go_enter Tryd.func10, Tryd.ntmps10
  go_wp2_with (go_at_call 30; refine hco.mono ?_; rintro e w2 ⟨rfl, hB2⟩; have hc2 : w2.cell? ⟨w.heap.size, 0, none⟩ = some (.slice none 0 0) := (hB2.cell (p := ⟨w.heap.size, 0, none⟩) (by simp)).trans hbox)
  go_ret
  exact ⟨rfl, hBa.trans (hB2.mono hBa.size)⟩

set_option maxRecDepth 100000 in
theorem is_ok (vc vw : Value) (xs : List (List Int)) (w : World) (hc : Rows w vc xs) (hw : Rows w vw xs) (hl : xs.length ≤ 1000000) (hm : ∀ x ∈ xs, x.length ≤ 1000000) :
    Calls Tryd.prog 10 #[.agg #[vc], .nilIface, vw, .int .i64 0] w fun e w' => e = .returned (.bool true) ∧ Below w.heap.size w w' := by
  obtain ⟨ac, cc, rfl, -, -⟩ := hc.open_
  have hBa : Below w.heap.size w (w.alloc (.cells #[.slice ac xs.length cc] 27)) := (Below.refl _ w).alloc (Nat.le_refl _) _
  have hsl := same_lists _ vw xs xs (w.alloc (.cells #[.slice ac xs.length cc] 27)) (hc.below hBa) (hw.below hBa) hl hm
  rw [decide_eq_true rfl] at hsl
  have hbox := (box_new w (.slice ac xs.length cc) 27).1
  clear hc hw
  go_enter Tryd.func10, Tryd.ntmps10
  go_wp2_with (go_at_call 22; refine hsl.mono ?_; rintro e w2 ⟨rfl, q, rfl⟩)
  go_ret
  exact ⟨rfl, hBa.trans ⟨rfl, rfl, rfl, Nat.le_refl _, fun _ _ => rfl⟩⟩

end Go.Proofs.YtkmecdgnoemimaaDoor

namespace Go.Proofs.YtkmecdgnoemimaaDoor
open Go.RowKit Go.Sort Go.Maps Go.Deep

/-- What ComplexError answers, with the error's value. -/
theorem error_k2 (CL : ClosedHolds) (a : Nat → Addr) (vl : Value) (l : List (List Int)) (w : World) (hl : Rows w vl l) (hll : l.length ≤ 100000) (hle : ∀ x ∈ l, x.length ≤ 1000) :
    Calls Tryd.prog 7 #[vl] w fun e w' => Below w.heap.size w w' ∧ ∃ ve n all, Kind a l ve n all ∧ e = .returned (.int .i64 n) ∧ (((n == 0) = false ∧ 0 < n ∧ all = [] ∧ ∃ i : Nat, BadAt l i ∧ ve = .iface 165 (.pointer (some (a i))) ∧ n = (i : Int) + 1) ∨ (n = 0 ∧ Good l all)) := by
  refine (error_g CL vl l w hl hll hle).mono ?_
  rintro e w' ⟨hB, ⟨i, hb, rfl⟩ | ⟨all, g, rfl⟩⟩
  · exact ⟨hB, _, _, [], .inl ⟨i, hb, rfl, rfl, rfl⟩, rfl, .inl ⟨beq_false_of_ne (by omega), by omega, rfl, i, hb, rfl, rfl⟩⟩
  · exact ⟨hB, _, _, all, .inr ⟨g, rfl, rfl⟩, rfl, .inr ⟨rfl, g⟩⟩

end Go.Proofs.YtkmecdgnoemimaaDoor

namespace Go.Proofs.YtkmecdgnoemimaaDoor
open Go.RowKit Go.Sort Go.Maps Go.Deep

/-- The number tells no error. -/
def IsZero (n : Int) : Prop := n = 0
/-- An error's value and number. -/
def SState (a : Nat → Addr) (ve : Value) (n : Int) : Prop := (∃ i : Nat, i < 8 ∧ ve = .iface 165 (.pointer (some (a i))) ∧ n = (i : Int) + 1) ∨ (ve = .nilIface ∧ n = 0)

/-- is answers true of an answer that is as wanted. -/
theorem is_k {a : Nat → Addr} {s : Nat → ByteArray} {ve vc vw : Value} {n : Int} (st : SState a ve n) {g L : List (List Int)} (w : World)
    (hv : ¬ IsZero n → vc = .slice none 0 0) (hc : Rows w vc L) (hL : IsZero n → IsFacets g L) (hw : IsZero n → ∃ L', Rows w vw L' ∧ IsFacets g L' ∧ L'.length ≤ 1000000 ∧ ∀ x ∈ L', x.length ≤ 1000000) (hE : Errs a s w) :
    Calls Tryd.prog 10 #[.agg #[vc], ve, vw, .int .i64 n] w fun e w' => e = .returned (.bool true) ∧ Below w.heap.size w w' := by
  rcases st with ⟨i, hi, rfl, rfl⟩ | ⟨rfl, rfl⟩
  · rw [hv (by unfold IsZero; omega)]
    exact is_err i hi vw w hE
  · obtain ⟨L', h1, h2, h3⟩ := hw rfl
    have e := facets_one (fun _ => Iff.rfl) (hL rfl) h2
    subst e
    exact is_ok vc vw L w hc h1 h3.1 h3.2

end Go.Proofs.YtkmecdgnoemimaaDoor
