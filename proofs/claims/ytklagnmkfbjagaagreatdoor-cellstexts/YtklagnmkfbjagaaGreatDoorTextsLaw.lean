/- CellsTexts answers true of whatever list of sets and text. -/
import Derived.Test.YtklagnmkfbjagaaGreatDoorText
import Derived.Test.YtklagnmkfbjagaaGreatDoorReadRef
import Derived.Test.YtklagnmkfbjagaaGreatDoorRead
import Derived.Test.YtklagnmkfbjagaaGreatDoorErrorK
import Derived.Test.YtklagnmkfbjagaaGreatDoorCx
import Derived.Test.YtklagnmkfbjagaaGreatDoorCircleWalk
namespace Go.Proofs.YtklagnmkfbjagaaGreatDoor
open Go.RowKit Go.Sort Go.Maps Go.Deep

/-- An error's value as it is wanted. -/
def Wanted (a : Nat → Addr) (w : World) (ve : Value) (code at_ : Int) : Prop := (∃ i : Nat, i < 8 ∧ FaultAt a w ve i at_ ∧ code = (i : Int) + 1) ∨ (ve = .nilIface ∧ code = 0)
theorem faulted_k {a : Nat → Addr} {t : Nat → ByteArray} {ve : Value} {code at_ : Int} (w : World) (hE : Errs a t w) (h : Wanted a w ve code at_) :
    Calls Tryz.prog 14 #[ve, .agg #[.int .i64 code, .int .i64 at_]] w fun e w' => e = .returned (.bool true) ∧ Below w.heap.size w w' := by
  rcases h with ⟨i, hi, hf, rfl⟩ | ⟨rfl, rfl⟩
  · exact faulted_at w hE hf hi
  · exact faulted_nil at_ w
/-- The program and the document's answer tell the same of a text. -/
theorem texts_agree {a : Nat → Addr} {b : List UInt8} {w : World} {ve : Value} {L L' : List (List Int)} {code at_ : Int} (h1 : (blanks b = b.length ∧ ve = .nilIface ∧ L = []) ∨ (blanks b ≠ b.length ∧ GotOf a w ve L (rd (b.length + 1) [] 0 b))) (h2 : RefOf L' code at_ (outL b.length (mach [] [] (-1) 0 false 0 b))) :
    L = L' ∧ Wanted a w ve code at_ ∧ L.length ≤ 1000 ∧ ∀ x ∈ L, x.length ≤ 1000 := by
  rcases h1 with ⟨hb, rfl, rfl⟩ | ⟨hb, hg⟩
  · rw [begun_blanks [] [] (-1) 0 b hb] at h2
    obtain ⟨rfl, rfl, rfl⟩ := h2
    exact ⟨rfl, .inr ⟨rfl, rfl⟩, by simp, fun x hx => by cases hx⟩
  · have hm := mach_rd (b.length + 1) [] (-1) false 0 b (by omega) (.inr hb)
    rw [Nat.zero_add] at hm
    rw [hm] at h2
    cases hr : rd (b.length + 1) [] 0 b with
    | bad p =>
      rw [hr] at hg h2
      obtain ⟨hf, rfl⟩ := hg
      obtain ⟨rfl, rfl, rfl⟩ := h2
      exact ⟨rfl, .inl ⟨0, by omega, hf, rfl⟩, by simp, fun x hx => by cases hx⟩
    | sets l =>
      rw [hr] at hg h2
      rcases hg with ⟨hno, hf, rfl⟩ | ⟨hok, hov, hf, rfl⟩ | ⟨hok, hov, rfl, hL⟩
      · rcases h2 with ⟨_, rfl, rfl, rfl⟩ | ⟨hk, _⟩ | ⟨hk, _⟩
        · exact ⟨rfl, .inl ⟨3, by omega, hf, rfl⟩, by simp, fun x hx => by cases hx⟩
        · exact absurd hk hno
        · exact absurd hk hno
      · rcases h2 with ⟨hk, _⟩ | ⟨_, _, rfl, rfl, rfl⟩ | ⟨_, hk, _⟩
        · exact absurd hok hk
        · exact ⟨rfl, .inl ⟨1, by omega, hf, rfl⟩, by simp, fun x hx => by cases hx⟩
        · exact absurd hov hk
      · rcases h2 with ⟨hk, _⟩ | ⟨_, hk, _⟩ | ⟨_, _, rfl, rfl, hL', h3, h4⟩
        · exact absurd hok hk
        · exact absurd hk hov
        · obtain rfl := facets_one (fun _ => Iff.rfl) hL hL'
          exact ⟨rfl, .inr ⟨rfl, rfl⟩, h3, h4⟩
/-- What is told is read again as it was. -/
theorem again {a : Nat → Addr} {c all : List (List Int)} (g : Good c all) {w : World} {ve : Value} {L : List (List Int)} (h : (blanks (textC c) = (textC c).length ∧ ve = .nilIface ∧ L = []) ∨ (blanks (textC c) ≠ (textC c).length ∧ GotOf a w ve L (rd ((textC c).length + 1) [] 0 (textC c)))) : ve = .nilIface ∧ L = c := by
  by_cases hc : c = []
  · subst hc
    rcases h with ⟨_, h1, h2⟩ | ⟨h1, _⟩
    · exact ⟨h1, h2⟩
    · exact absurd rfl h1
  · obtain ⟨d, t, e, hd⟩ := textC_head c hc g.plain
    rcases h with ⟨h1, _⟩ | ⟨_, h1⟩
    · rw [e, blanks_digit hd] at h1; simp at h1
    · have hr := rd_text c hc g.plain ((textC c).length + 1) [] 0 [] (.inl rfl) (by simp)
      rw [List.nil_append, List.nil_append] at hr
      rw [hr] at h1
      rcases h1 with ⟨hno, _⟩ | ⟨_, hov, _⟩ | ⟨_, _, rfl, hL⟩
      · exact absurd g.ok hno
      · exact absurd hov g.few
      · refine ⟨rfl, ?_⟩
        have hrr : ∀ t ∈ c.map srt, Rising t := fun t ht => by obtain ⟨x, hx, rfl⟩ := List.mem_map.1 ht; exact srt_rising (g.ok x hx).2.1
        have := facets_one (fun _ => Iff.rfl) hL (facets_made hrr g.isAll)
        rw [this, g.same]

set_option maxRecDepth 100000 in
set_option maxHeartbeats 8000000 in
theorem texts_law (CL : ClosedHolds) {a : Nat → Addr} {t : Nat → ByteArray} (vc : Value) (c : List (List Int)) (s : ByteArray) (w : World) (hE : Errs a t w) (hc : Rows w vc c) :
    Calls Tryz.prog 3 #[vc, .string s] w fun e w' => e = .returned (.bool true) ∧ Below w.heap.size w w' := by
  obtain ⟨b, hs⟩ : ∃ b : List UInt8, (⟨b.toArray⟩ : ByteArray) = s := ⟨s.data.toList, by simp⟩
  have hsz := size_is hs
  have HS : Hid ((⟨b.toArray⟩ : ByteArray) = s) := hs
  have hci := circle_ w hE
  have HR : Hid (Rows w vc c) := hc
  clear hc hs
  go_enter Tryz.func3, Tryz.ntmps3
  go_wp2_with fail
  refine hci.mono ?_
  clear hci
  rintro e w1 ⟨rfl, hB1⟩
  have hli := little_ CL vc c 150 w1 (HR.out.below hB1)
  go_wp2_with fail
  refine hli.mono ?_
  clear hli
  rintro e w2 ⟨q, rfl, hB2, hq⟩
  have HB2 : Hid (Below w.heap.size w w2) := hB1.trans (hB2.mono hB1.size)
  clear hB1 hB2
  cases q with
  | false =>
    clear hq
    go_wp2
    go_ret
    exact ⟨rfl, HB2.out⟩
  | true =>
    have hq1 := (hq rfl).1
    have hq2 := (hq rfl).2
    have hb1 : c.length ≤ 100000 := by omega
    have hb2 : ∀ x ∈ c, x.length ≤ 1000 := fun x hx => by have := hq2 x hx; omega
    have HQ : Hid (c.length ≤ 40 ∧ ∀ x ∈ c, x.length ≤ 12) := ⟨hq1, hq2⟩
    clear hq hq2
    by_cases h400 : 400 < b.length
    · go_wp2
      go_ret
      exact ⟨rfl, HB2.out⟩
    · have her := error_k2 CL a vc c w2 (HR.out.below HB2.out) hb1 hb2
      go_wp2_with fail
      refine her.mono ?_
      clear her
      rintro e w3 ⟨hB3, ve, n, all, hk, rfl, ⟨hn0, hn1, hall, i, hbad, hve, hni⟩ | ⟨rfl, hg⟩⟩
      · have HB3 : Hid (Below w.heap.size w w3) := HB2.out.trans (hB3.mono HB2.out.size)
        have HK : Hid (Kind a c ve n all) := hk
        have HBD : Hid (BadAt c i) := hbad
        have hn0' : ¬ n = 0 := by omega
        have hcx := cx_ vc c w3 (HR.out.below HB3.out) hb1 hb2
        clear hk hB3 HB2 hall hbad hni
        go_wp2_with fail
        refine hcx.mono ?_
        clear hcx
        rintro e w4 ⟨v4, rfl, hr4, hB4⟩
        have HB4 : Hid (Below w.heap.size w w4) := HB3.out.trans (hB4.mono HB3.out.size)
        have hte := text_err v4 c i HBD.out w4 (hE.below HB4.out) hr4 (by omega) hb2
        rw [← hve] at hte
        clear hr4 hB4 HB3 hve
        go_wp2_with fail
        refine hte.mono ?_
        clear hte
        rintro e w5 ⟨rfl, hB5⟩
        have HB5 : Hid (Below w.heap.size w w5) := HB4.out.trans (hB5.mono HB4.out.size)
        have hco := coded_k HK.out w5 (hE.below HB5.out)
        clear hB5 HB4
        go_wp2_with fail
        refine hco.mono ?_
        clear hco
        rintro e w6 ⟨rfl, hB6⟩
        have HB6 : Hid (Below w.heap.size w w6) := HB5.out.trans (hB6.mono HB5.out.size)
        have hrd := read_ b s HS.out (by omega) w6 (hE.below HB6.out)
        clear hB6 HB5
        go_wp2_with fail
        refine hrd.mono ?_
        clear hrd
        rintro e w7 ⟨hB7, v7, L7, ve7, rfl, hr7, hx7⟩
        have HB7 : Hid (Below w.heap.size w w7) := HB6.out.trans (hB7.mono HB6.out.size)
        obtain ⟨a7, c7, rfl, -, -⟩ := hr7.open_
        have HX7 : Hid ((blanks b = b.length ∧ ve7 = .nilIface ∧ L7 = []) ∨ (blanks b ≠ b.length ∧ GotOf a w7 ve7 L7 (rd (b.length + 1) [] 0 b))) := hx7
        have HR7 : Hid (Rows w7 (.slice a7 L7.length c7) L7) := hr7.any
        have hBa : Below w7.heap.size w7 (w7.alloc (.cells #[.slice a7 L7.length c7] 31)) := (Below.refl _ w7).alloc (Nat.le_refl _) _
        have HX : Hid ((w7.alloc (.cells #[.slice a7 L7.length c7] 31)).cell? ⟨w7.heap.size, 0, none⟩ = some (.slice a7 L7.length c7) ∧ (w7.alloc (.cells #[.slice a7 L7.length c7] 31)).frozen? ⟨w7.heap.size, 0, none⟩ = false) := box_new w7 _ _
        have HB8 : Hid (Below w.heap.size w (w7.alloc (.cells #[.slice a7 L7.length c7] 31))) := HB7.out.trans (hBa.mono HB7.out.size)
        have hrc := readc_ CL b s HS.out (by omega) (w7.alloc (.cells #[.slice a7 L7.length c7] 31))
        have HBa : Hid (Below w7.heap.size w7 (w7.alloc (.cells #[.slice a7 L7.length c7] 31))) := hBa
        clear hB7 hr7 hx7 HB6 hBa
        go_wp2_with fail
        refine hrc.mono ?_
        clear hrc
        rintro e w9 ⟨hB9, v9, L9, co, at9, rfl, hr9, hx9⟩
        obtain ⟨a9, c9, rfl, -, -⟩ := hr9.open_
        have HB79 : Hid (Below w7.heap.size w7 w9) := HBa.out.trans (hB9.mono HBa.out.size)
        have HB9 : Hid (Below w.heap.size w w9) := HB7.out.trans (HB79.out.mono HB7.out.size)
        obtain ⟨heq, hwt, hb3, hb4⟩ := texts_agree HX7.out hx9
        have HBb : Hid (Below w9.heap.size w9 (w9.alloc (.cells #[.int .i64 co, .int .i64 at9] 38))) := (Below.refl _ w9).alloc (Nat.le_refl _) _
        have hfc := fault_cells w9 (.int .i64 co) (.int .i64 at9) 38
        have HF : Hid ((w9.alloc (.cells #[.int .i64 co, .int .i64 at9] 38)).cell? ⟨w9.heap.size, 0, none⟩ = some (.int .i64 co) ∧ (w9.alloc (.cells #[.int .i64 co, .int .i64 at9] 38)).cell? ⟨w9.heap.size, 1, none⟩ = some (.int .i64 at9)) := hfc
        have HX9 : Hid (w9.cell? ⟨w7.heap.size, 0, none⟩ = some (.slice a7 L7.length c7) ∧ w9.frozen? ⟨w7.heap.size, 0, none⟩ = false) := ⟨(hB9.cell (p := ⟨w7.heap.size, 0, none⟩) (by simp)).trans HX.out.1, (hB9.frozen (p := ⟨w7.heap.size, 0, none⟩) (by simp)).trans HX.out.2⟩
        have HX10 : Hid ((w9.alloc (.cells #[.int .i64 co, .int .i64 at9] 38)).cell? ⟨w7.heap.size, 0, none⟩ = some (.slice a7 L7.length c7) ∧ (w9.alloc (.cells #[.int .i64 co, .int .i64 at9] 38)).frozen? ⟨w7.heap.size, 0, none⟩ = false) := ⟨(HBb.out.cell (p := ⟨w7.heap.size, 0, none⟩) (cell_lt HX9.out.1)).trans HX9.out.1, (HBb.out.frozen (p := ⟨w7.heap.size, 0, none⟩) (cell_lt HX9.out.1)).trans HX9.out.2⟩
        have HB10 : Hid (Below w.heap.size w (w9.alloc (.cells #[.int .i64 co, .int .i64 at9] 38))) := HB9.out.trans (HBb.out.mono HB9.out.size)
        have hsl := same_lists (.slice a7 L7.length c7) (.slice a9 L9.length c9) L7 L9 (w9.alloc (.cells #[.int .i64 co, .int .i64 at9] 38)) ((HR7.out.below HB79.out).below HBb.out) (hr9.below HBb.out) (by omega) (fun x hx => by have := hb4 x hx; omega)
        rw [decide_eq_true heq] at hsl
        have HW : Hid (∀ W, Below w9.heap.size w9 W → Wanted a W ve7 co at9) := fun W hW => by
          rcases hwt with ⟨i', h1, h2, h3⟩ | h1
          · exact .inl ⟨i', h1, (h2.below HB79.out).below hW, h3⟩
          · exact .inr h1
        have hcx9 := HX10.out.1
        clear hB9 hr9 hx9 heq hwt hb3 hb4 hfc HX HB8
        go_wp2_with fail
        refine hsl.mono ?_
        clear hsl
        rintro e w10 ⟨rfl, nq, rfl⟩
        have HBq : Hid (Below w9.heap.size w9 ((w9.alloc (.cells #[.int .i64 co, .int .i64 at9] 38)).drewN nq)) := HBb.out.trans ⟨rfl, rfl, rfl, Nat.le_refl _, fun _ _ => rfl⟩
        have HB11 : Hid (Below w.heap.size w ((w9.alloc (.cells #[.int .i64 co, .int .i64 at9] 38)).drewN nq)) := HB9.out.trans (HBq.out.mono HB9.out.size)
        have hfa := faulted_k ((w9.alloc (.cells #[.int .i64 co, .int .i64 at9] 38)).drewN nq) (hE.below HB11.out) (HW.out _ HBq.out)
        have hf0 : ((w9.alloc (.cells #[.int .i64 co, .int .i64 at9] 38)).drewN nq).cell? ⟨w9.heap.size, 0, none⟩ = some (.int .i64 co) := HF.out.1
        have hf1 : ((w9.alloc (.cells #[.int .i64 co, .int .i64 at9] 38)).drewN nq).cell? ⟨w9.heap.size, 1, none⟩ = some (.int .i64 at9) := HF.out.2
        have HX11 : Hid (((w9.alloc (.cells #[.int .i64 co, .int .i64 at9] 38)).drewN nq).cell? ⟨w7.heap.size, 0, none⟩ = some (.slice a7 L7.length c7) ∧ ((w9.alloc (.cells #[.int .i64 co, .int .i64 at9] 38)).drewN nq).frozen? ⟨w7.heap.size, 0, none⟩ = false) := HX10.out
        clear hcx9
        go_wp2_with fail
        refine hfa.mono ?_
        clear hfa hf0 hf1
        rintro e w12 ⟨rfl, hB12⟩
        have HBZ : Hid (Below w.heap.size w w12) := HB11.out.trans (hB12.mono HB11.out.size)
        have HX12 : Hid (w12.cell? ⟨w7.heap.size, 0, none⟩ = some (.slice a7 L7.length c7) ∧ w12.frozen? ⟨w7.heap.size, 0, none⟩ = false) := ⟨(hB12.cell (p := ⟨w7.heap.size, 0, none⟩) (cell_lt HX11.out.1)).trans HX11.out.1, (hB12.frozen (p := ⟨w7.heap.size, 0, none⟩) (cell_lt HX11.out.1)).trans HX11.out.2⟩
        clear hB12
        go_wp2
        go_ret
        exact ⟨rfl, HBZ.out⟩
      · have HB3 : Hid (Below w.heap.size w w3) := HB2.out.trans (hB3.mono HB2.out.size)
        have HG : Hid (Good c all) := hg
        have hve : ve = .nilIface := by
          rcases hk with ⟨i, hb, _⟩ | ⟨_, h, _⟩
          · exact (bad_good hb hg).elim
          · exact h
        subst hve
        have HK : Hid (Kind a c .nilIface 0 all) := hk
        have HTL : Hid (∀ i, (textC (c.take i)).length ≤ 1600) := fun i => by
          have h1 := textC_length (m := 12) (c.take i) (fun S hS => HQ.out.2 S (List.mem_of_mem_take hS))
          have h2 : (c.take i).length ≤ 40 := by have := HQ.out.1; rw [List.length_take]; omega
          omega
        have HTC : Hid ((textC c).length ≤ 1600) := by have := HTL.out c.length; rwa [List.take_length] at this
        have hcx := cx_ vc c w3 (HR.out.below HB3.out) hb1 hb2
        clear hk hg hB3 HB2
        go_wp2_with fail
        refine hcx.mono ?_
        clear hcx
        rintro e w4 ⟨v4, rfl, hr4, hB4⟩
        have HB4 : Hid (Below w.heap.size w w4) := HB3.out.trans (hB4.mono HB3.out.size)
        have hte := text_ok v4 c all HG.out w4 (hE.below HB4.out) hr4 (by omega) hb2 (by have := HTC.out; omega)
        obtain ⟨y, hy⟩ : ∃ y, (⟨(textC c).toArray⟩ : ByteArray) = y := ⟨_, rfl⟩
        rw [hy] at hte
        have HY : Hid ((⟨(textC c).toArray⟩ : ByteArray) = y) := hy
        clear hr4 hB4 HB3 hy
        go_wp2_with fail
        refine hte.mono ?_
        clear hte
        rintro e w4' ⟨rfl, hB4'⟩
        have HB4' : Hid (Below w.heap.size w w4') := HB4.out.trans (hB4'.mono HB4.out.size)
        have hft := facettext_ vc c w4' (HR.out.below HB4'.out) HG.out.plain (by omega) hb2 (fun i => by have := HTL.out i; omega)
        rw [HY.out] at hft
        clear hB4' HB4
        go_wp2_with fail
        refine hft.mono ?_
        clear hft
        rintro e w5 ⟨rfl, hB5⟩
        have HB5 : Hid (Below w.heap.size w w5) := HB4'.out.trans (hB5.mono HB4'.out.size)
        have hco := coded_k HK.out w5 (hE.below HB5.out)
        clear hB5 HB4'
        go_wp2_with fail
        refine hco.mono ?_
        clear hco
        rintro e w6 ⟨rfl, hB6⟩
        have HB6 : Hid (Below w.heap.size w w6) := HB5.out.trans (hB6.mono HB5.out.size)
        have hrd := read_ b s HS.out (by omega) w6 (hE.below HB6.out)
        clear hB6 HB5
        go_wp2_with fail
        refine hrd.mono ?_
        clear hrd
        rintro e w7 ⟨hB7, v7, L7, ve7, rfl, hr7, hx7⟩
        have HB7 : Hid (Below w.heap.size w w7) := HB6.out.trans (hB7.mono HB6.out.size)
        obtain ⟨a7, c7, rfl, -, -⟩ := hr7.open_
        have HX7 : Hid ((blanks b = b.length ∧ ve7 = .nilIface ∧ L7 = []) ∨ (blanks b ≠ b.length ∧ GotOf a w7 ve7 L7 (rd (b.length + 1) [] 0 b))) := hx7
        have HR7 : Hid (Rows w7 (.slice a7 L7.length c7) L7) := hr7.any
        have hBa : Below w7.heap.size w7 (w7.alloc (.cells #[.slice a7 L7.length c7] 31)) := (Below.refl _ w7).alloc (Nat.le_refl _) _
        have HX : Hid ((w7.alloc (.cells #[.slice a7 L7.length c7] 31)).cell? ⟨w7.heap.size, 0, none⟩ = some (.slice a7 L7.length c7) ∧ (w7.alloc (.cells #[.slice a7 L7.length c7] 31)).frozen? ⟨w7.heap.size, 0, none⟩ = false) := box_new w7 _ _
        have HB8 : Hid (Below w.heap.size w (w7.alloc (.cells #[.slice a7 L7.length c7] 31))) := HB7.out.trans (hBa.mono HB7.out.size)
        have hrc := readc_ CL b s HS.out (by omega) (w7.alloc (.cells #[.slice a7 L7.length c7] 31))
        have HBa : Hid (Below w7.heap.size w7 (w7.alloc (.cells #[.slice a7 L7.length c7] 31))) := hBa
        clear hB7 hr7 hx7 HB6 hBa
        go_wp2_with fail
        refine hrc.mono ?_
        clear hrc
        rintro e w9 ⟨hB9, v9, L9, co, at9, rfl, hr9, hx9⟩
        obtain ⟨a9, c9, rfl, -, -⟩ := hr9.open_
        have HB79 : Hid (Below w7.heap.size w7 w9) := HBa.out.trans (hB9.mono HBa.out.size)
        have HB9 : Hid (Below w.heap.size w w9) := HB7.out.trans (HB79.out.mono HB7.out.size)
        obtain ⟨heq, hwt, hb3, hb4⟩ := texts_agree HX7.out hx9
        have HBb : Hid (Below w9.heap.size w9 (w9.alloc (.cells #[.int .i64 co, .int .i64 at9] 38))) := (Below.refl _ w9).alloc (Nat.le_refl _) _
        have hfc := fault_cells w9 (.int .i64 co) (.int .i64 at9) 38
        have HF : Hid ((w9.alloc (.cells #[.int .i64 co, .int .i64 at9] 38)).cell? ⟨w9.heap.size, 0, none⟩ = some (.int .i64 co) ∧ (w9.alloc (.cells #[.int .i64 co, .int .i64 at9] 38)).cell? ⟨w9.heap.size, 1, none⟩ = some (.int .i64 at9)) := hfc
        have HX9 : Hid (w9.cell? ⟨w7.heap.size, 0, none⟩ = some (.slice a7 L7.length c7) ∧ w9.frozen? ⟨w7.heap.size, 0, none⟩ = false) := ⟨(hB9.cell (p := ⟨w7.heap.size, 0, none⟩) (by simp)).trans HX.out.1, (hB9.frozen (p := ⟨w7.heap.size, 0, none⟩) (by simp)).trans HX.out.2⟩
        have HX10 : Hid ((w9.alloc (.cells #[.int .i64 co, .int .i64 at9] 38)).cell? ⟨w7.heap.size, 0, none⟩ = some (.slice a7 L7.length c7) ∧ (w9.alloc (.cells #[.int .i64 co, .int .i64 at9] 38)).frozen? ⟨w7.heap.size, 0, none⟩ = false) := ⟨(HBb.out.cell (p := ⟨w7.heap.size, 0, none⟩) (cell_lt HX9.out.1)).trans HX9.out.1, (HBb.out.frozen (p := ⟨w7.heap.size, 0, none⟩) (cell_lt HX9.out.1)).trans HX9.out.2⟩
        have HB10 : Hid (Below w.heap.size w (w9.alloc (.cells #[.int .i64 co, .int .i64 at9] 38))) := HB9.out.trans (HBb.out.mono HB9.out.size)
        have hsl := same_lists (.slice a7 L7.length c7) (.slice a9 L9.length c9) L7 L9 (w9.alloc (.cells #[.int .i64 co, .int .i64 at9] 38)) ((HR7.out.below HB79.out).below HBb.out) (hr9.below HBb.out) (by omega) (fun x hx => by have := hb4 x hx; omega)
        rw [decide_eq_true heq] at hsl
        have HW : Hid (∀ W, Below w9.heap.size w9 W → Wanted a W ve7 co at9) := fun W hW => by
          rcases hwt with ⟨i', h1, h2, h3⟩ | h1
          · exact .inl ⟨i', h1, (h2.below HB79.out).below hW, h3⟩
          · exact .inr h1
        have hcx9 := HX10.out.1
        clear hB9 hr9 hx9 heq hwt hb3 hb4 hfc HX HB8
        go_wp2_with fail
        refine hsl.mono ?_
        clear hsl
        rintro e w10 ⟨rfl, nq, rfl⟩
        have HBq : Hid (Below w9.heap.size w9 ((w9.alloc (.cells #[.int .i64 co, .int .i64 at9] 38)).drewN nq)) := HBb.out.trans ⟨rfl, rfl, rfl, Nat.le_refl _, fun _ _ => rfl⟩
        have HB11 : Hid (Below w.heap.size w ((w9.alloc (.cells #[.int .i64 co, .int .i64 at9] 38)).drewN nq)) := HB9.out.trans (HBq.out.mono HB9.out.size)
        have hfa := faulted_k ((w9.alloc (.cells #[.int .i64 co, .int .i64 at9] 38)).drewN nq) (hE.below HB11.out) (HW.out _ HBq.out)
        have hf0 : ((w9.alloc (.cells #[.int .i64 co, .int .i64 at9] 38)).drewN nq).cell? ⟨w9.heap.size, 0, none⟩ = some (.int .i64 co) := HF.out.1
        have hf1 : ((w9.alloc (.cells #[.int .i64 co, .int .i64 at9] 38)).drewN nq).cell? ⟨w9.heap.size, 1, none⟩ = some (.int .i64 at9) := HF.out.2
        have HX11 : Hid (((w9.alloc (.cells #[.int .i64 co, .int .i64 at9] 38)).drewN nq).cell? ⟨w7.heap.size, 0, none⟩ = some (.slice a7 L7.length c7) ∧ ((w9.alloc (.cells #[.int .i64 co, .int .i64 at9] 38)).drewN nq).frozen? ⟨w7.heap.size, 0, none⟩ = false) := HX10.out
        clear hcx9
        go_wp2_with fail
        refine hfa.mono ?_
        clear hfa hf0 hf1
        rintro e w12 ⟨rfl, hB12⟩
        have HBZ : Hid (Below w.heap.size w w12) := HB11.out.trans (hB12.mono HB11.out.size)
        have HX12 : Hid (w12.cell? ⟨w7.heap.size, 0, none⟩ = some (.slice a7 L7.length c7) ∧ w12.frozen? ⟨w7.heap.size, 0, none⟩ = false) := ⟨(hB12.cell (p := ⟨w7.heap.size, 0, none⟩) (cell_lt HX11.out.1)).trans HX11.out.1, (hB12.frozen (p := ⟨w7.heap.size, 0, none⟩) (cell_lt HX11.out.1)).trans HX11.out.2⟩
        clear hB12
        have hrd := read_ (textC c) y HY.out (by have := HTC.out; omega) w12 (hE.below HBZ.out)
        go_wp2_with fail
        refine hrd.mono ?_
        clear hrd
        rintro e w13 ⟨hB13, v13, L13, ve13, rfl, hr13, hx13⟩
        obtain ⟨hvn, hLc⟩ := again HG.out hx13
        subst hvn
        obtain ⟨a13, c13, rfl, -, -⟩ := hr13.open_
        have HB13 : Hid (Below w.heap.size w w13) := HBZ.out.trans (hB13.mono HBZ.out.size)
        have HX13 : Hid (w13.cell? ⟨w7.heap.size, 0, none⟩ = some (.slice a7 L7.length c7) ∧ w13.frozen? ⟨w7.heap.size, 0, none⟩ = false) := ⟨(hB13.cell (p := ⟨w7.heap.size, 0, none⟩) (cell_lt HX12.out.1)).trans HX12.out.1, (hB13.frozen (p := ⟨w7.heap.size, 0, none⟩) (cell_lt HX12.out.1)).trans HX12.out.2⟩
        have hlt12 : w7.heap.size < w12.heap.size := cell_lt HX12.out.1
        have hcc := World.cell?_setCell_same' w13 ⟨w7.heap.size, 0, none⟩ (.slice a13 L13.length c13) (by rw [HX13.out.1]; rfl)
        have hrw : Rows (w13.setCell ⟨w7.heap.size, 0, none⟩ (.slice a13 L13.length c13)) (.slice a13 L13.length c13) L13 := (hr13.keep (fun bl hbl hS => by rw [blk_setCell_other _ _ _ _ (show bl ≠ w7.heap.size by omega)])).any
        have HB14 : Hid (Below w.heap.size w (w13.setCell ⟨w7.heap.size, 0, none⟩ (.slice a13 L13.length c13))) := HB13.out.setCell (p := ⟨w7.heap.size, 0, none⟩) (by have := HB7.out.size; show w.heap.size ≤ w7.heap.size; omega) _
        have hsl := same_lists (.slice a13 L13.length c13) vc L13 c (w13.setCell ⟨w7.heap.size, 0, none⟩ (.slice a13 L13.length c13)) hrw (HR.out.below HB14.out) (by rw [hLc]; omega) (fun x hx => by rw [hLc] at hx; have := hb2 x hx; omega)
        rw [decide_eq_true hLc] at hsl
        have hcb := HX13.out.1
        have hzb := HX13.out.2
        clear hr13 hx13 hLc hrw hB13
        go_wp2_with fail
        refine hsl.mono ?_
        clear hsl hcb hzb
        rintro e w15 ⟨rfl, nz, rfl⟩
        have HBE : Hid (Below w.heap.size w ((w13.setCell ⟨w7.heap.size, 0, none⟩ (.slice a13 L13.length c13)).drewN nz)) := HB14.out.trans ⟨rfl, rfl, rfl, Nat.le_refl _, fun _ _ => rfl⟩
        go_wp2
        go_ret
        exact ⟨rfl, HBE.out⟩

end Go.Proofs.YtklagnmkfbjagaaGreatDoor
