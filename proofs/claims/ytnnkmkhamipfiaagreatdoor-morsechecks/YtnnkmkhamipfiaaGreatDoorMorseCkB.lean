/- What a good gradient brings with it: sums of paths, mates, sizes. No program is walked. What the second law file's faulted answers of an error and of what is wanted. What the walks of MorseChecks share: a fault in its box; an error that faulted knows. MorseChecks where the sets or the pairs are too many to be spoken of. MorseChecks where the sets are none: a straight walk over what is handed in. MorseChecks where the pairs are none: a straight walk over what is handed in. -/
import Derived.Test.YtnnkmkhamipfiaaGreatDoorMorsePartners
import Derived.Test.YtnnkmkhamipfiaaGreatDoorMorseChk2
import Derived.Test.YtnnkmkhamipfiaaGreatDoorMorseSmall
import Derived.Test.YtnnkmkhamipfiaaGreatDoorMorseBound
import Derived.Test.YtnnkmkhamipfiaaGreatDoorMorseCritRef
import Derived.Test.YtnnkmkhamipfiaaGreatDoorRegionGrow
import Derived.Test.YtnnkmkhamipfiaaGreatDoorCode
import Derived.Test.YtnnkmkhamipfiaaGreatDoorMorseCrit
import Derived.BigQuiet
import Derived.Deep.QuietTactic
import Derived.Test.YtnnkmkhamipfiaaGreatDoorTab
import Derived.Test.YtnnkmkhamipfiaaGreatDoorMorseUnder
import Derived.Deep.DeepCutAuto
namespace Go.Proofs.YtnnkmkhamipfiaaGreatDoor
open Go.RowKit Go.Sort

theorem und_in {L : List (List Int)} {a b : Nat} (h : undL L a b = true) : b < L.length := by
  rcases Nat.lt_or_ge b L.length with hb | hb
  · exact hb
  · have h1 := (und_len h).1
    have h2 : faceAt L b = [] := by unfold faceAt; rw [List.getElem?_eq_none hb]; rfl
    rw [h2] at h1; simp at h1
theorem pow_top {k : Nat} (hk : k ≤ 62) : 600 * 600 ^ k < NatTop := by
  have h1 : (600 : Nat) ^ k ≤ 600 ^ 62 := Nat.pow_le_pow_right (by decide) hk
  have h2 : 600 * 600 ^ 62 < NatTop := by decide +kernel
  omega
theorem mate_ok {L : List (List Int)} {ps : List Duo} {mt : Nat → Int} (hF : FaceList L) (h : MateInv L.length (undL L) ps mt) : MateOk L mt := by
  intro a _
  by_cases e : mt a = -1
  · exact .inl e
  · obtain ⟨i, p, hp, h1⟩ := h.src a e
    obtain ⟨x, y, rfl, hx, hy, hxy, h2, h3⟩ := h.ok i p hp
    simp only at h1
    rcases h1 with h1 | h1
    · obtain rfl : x = a := by omega
      exact .inr ⟨y, h2, hy, .inl ⟨hxy, und_less hF _ _ hxy⟩⟩
    · obtain rfl : y = a := by omega
      exact .inr ⟨x, h3, hx, .inr ⟨hxy, und_less hF _ _ hxy⟩⟩
/-- What is known of a good gradient's paths. -/
structure GradP (L : List (List Int)) (mt : Nat → Int) (Pf : Nat → Nat → Nat × Nat) (ρ : Nat → Nat) (N M : Nat) : Prop where
  small : ∀ r x, (Pf r x).1 + (Pf r x).2 ≤ M
  top : 600 * M < NatTop
  eq : ∀ r, PEq (upW mt) (sgL L) (downsL L) r (Pf r)
  rank : ∀ i, ρ i < N
  down : ∀ x y, leadL L mt x y → ρ y < ρ x
  up : ∀ x y, upW mt x = some y → y < L.length ∧ x ∈ downsL L y
  vals : ValsOf L mt (fun g a => netP (Pf g a))
  ents : ∀ r c, entL L Pf r c = wsum (fun y => undL L y c) (sgL L c) (fun a => netP (Pf r a)) (-1) L.length
theorem grad_ex {L : List (List Int)} {ps : List Duo} (hF : FaceList L) (hL6 : L.length ≤ 600) (hps : ps.length ≤ 60) (hj : joinsL L ps) (hr : RankedN (OnP (undL L) ps) (ps.length + 1)) : ∃ Pf ρ N M, GradP L (matesL ps) Pf ρ N M := by
  have hu := und_less hF
  have hI : MateInv L.length (undL L) ps (matesL ps) := inv_of hu hj
  have hk : RankedN (leadL L (matesL ps)) (ps.length + 2) := rank_up hu hI hr
  have hm : ∀ b, (downsL L b).length ≤ 600 := fun b => by
    have := List.length_filter_le (fun x => undL L x b) (List.range L.length)
    rw [List.length_range] at this
    exact Nat.le_trans this hL6
  have hP := fun g => paths_ex (upW (matesL ps)) (sgL L) (downsL L) hk g hm (by decide)
  obtain ⟨Pf, hPf⟩ : ∃ Pf : Nat → Nat → Nat × Nat, ∀ g, PEq (upW (matesL ps)) (sgL L) (downsL L) g (Pf g) ∧ ∀ a, (Pf g a).1 + (Pf g a).2 ≤ 600 ^ (ps.length + 2) := ⟨fun g => (hP g).choose, fun g => (hP g).choose_spec⟩
  have hs : ∀ b x, undL L x b = true → sgL L b x = 1 ∨ sgL L b x = -1 := fun b x h => (und_sign hF (und_in h) h).2
  have hup : ∀ x y, upW (matesL ps) x = some y → undL L x y = true := fun x y e => by
    obtain ⟨i, hi⟩ := (up_iff hu hI).1 e
    obtain ⟨a, b, e2, _, _, h3, _⟩ := hI.ok i _ hi
    have e3 := congrArg Prod.fst e2
    have e4 := congrArg Prod.snd e2
    simp only at e3 e4
    obtain rfl : x = a := by omega
    obtain rfl : y = b := by omega
    exact h3
  obtain ⟨ρ, h1, h2⟩ := hk
  refine ⟨Pf, ρ, ps.length + 2, 600 ^ (ps.length + 2), fun r x => (hPf r).2 x, pow_top (by omega), fun r => (hPf r).1, h1, h2, fun x y e => ⟨und_in (hup x y e), List.mem_filter.2 ⟨List.mem_range.2 (und_len (hup x y e)).2, hup x y e⟩⟩, ⟨fun g => from_goal (hPf g).1, fun g a hne h0 => from_none (hPf g).1 hne h0, fun g a b hne h0 => net_from (u := undL L) (hPf g).1 (fun _ => rfl) hs h0 (hup a b h0) hne⟩, fun r c => net_col (u := undL L) (fun _ => rfl) hs c (-1)⟩

theorem crit_same {n : Nat} {u : Nat → Nat → Bool} {ps : List Duo} {w : Nat → Int} (h : MateInv n u ps w) (k : Nat) : critA w k = noneTo w k := by
  unfold critA noneTo
  congr 1
  refine List.filter_congr fun x _ => ?_
  rcases mate_nonneg h x with e | e
  · simp [e]
  · have h1 : ¬ w x = -1 := by omega
    have h2 : ¬ w x < 0 := by omega
    simp [h1, h2]

/-- Where the pairs go wrong is one place. -/
theorem joins_less {n : Nat} {u : Nat → Nat → Bool} {ps : List Duo} {j k : Nat} (hk : k < ps.length) (hj : k < j) (h : Joins n u noMate (ps.take j)) : GoodJ n u (matesBy noMate (ps.take k)) ps[k] := by
  have h1 : ps.take (k + 1) = ps.take k ++ [ps[k]] := take_at hk
  have h2 : ps.take j = ps.take (k + 1) ++ (ps.drop (k + 1)).take (j - (k + 1)) := by
    rw [← List.take_add]
    congr 1
    omega
  rw [h2] at h
  have h3 : ∀ (qs rs : List Duo) (w : Nat → Int), Joins n u w (qs ++ rs) → Joins n u w qs := by
    intro qs
    induction qs with
    | nil => intro rs w _; exact True.intro
    | cons q qs ih => intro rs w h; exact ⟨h.1, ih rs _ h.2⟩
  have h4 := h3 _ _ _ h
  rw [h1] at h4
  exact (joins_snoc.1 h4).2
theorem joins_all {n : Nat} {u : Nat → Nat → Bool} {ps : List Duo} {k : Nat} (hk : k < ps.length) (h : Joins n u noMate ps) : GoodJ n u (matesBy noMate (ps.take k)) ps[k] := joins_less (j := ps.length) hk hk (by rw [List.take_length]; exact h)
theorem joins_one {n : Nat} {u : Nat → Nat → Bool} {ps : List Duo} {j k : Nat} (hj : j < ps.length) (hk : k < ps.length) (gj : Joins n u noMate (ps.take j)) (gk : Joins n u noMate (ps.take k)) (nj : ¬ GoodJ n u (matesBy noMate (ps.take j)) ps[j]) (nk : ¬ GoodJ n u (matesBy noMate (ps.take k)) ps[k]) : j = k := by
  rcases Nat.lt_trichotomy j k with h | h | h
  · exact absurd (joins_less hj h gk) nj
  · exact h
  · exact absurd (joins_less hk h gj) nk

theorem gone_less {g g' : Nat → Bool} (h : ∀ i, g i = true → g' i = true) {k n : Nat} (hk : k < n) (h0 : g k = false) (h1 : g' k = true) : goneN g n < goneN g' n := by
  have h2 := goneN_put h0 n
  rw [if_pos hk] at h2
  have h3 : goneN (fun i => if i = k then true else g i) n ≤ goneN g' n := goneN_mono (fun i hi => by
    by_cases e : i = k
    · rw [e]; exact h1
    · simp only [e, if_false] at hi; exact h i hi) n
  omega
/-- Numbers that go down can be had small. -/
theorem rank_len {u : Nat → Nat → Bool} {ps : List Duo} {N : Nat} (h : RankedN (OnP u ps) N) : RankedN (OnP u ps) (ps.length + 1) := by
  obtain ⟨ρ, _, h2⟩ := h
  refine ⟨fun i => goneN (fun k => decide (ρ k < ρ i)) ps.length, fun i => Nat.lt_succ_of_le (goneN_le _ _), fun i k hik => ?_⟩
  have hlt := h2 i k hik
  exact gone_less (fun j hj => by rw [decide_eq_true_eq] at hj ⊢; omega) (on_lt hik).2 (decide_eq_false (Nat.lt_irrefl _)) (decide_eq_true hlt)

end Go.Proofs.YtnnkmkhamipfiaaGreatDoor

namespace Go.Proofs.YtnnkmkhamipfiaaGreatDoor
open Go.RowKit Go.Sort

set_option maxRecDepth 100000 in
theorem faulted_at {a : Nat → Addr} {t : Nat → ByteArray} {ve : Value} {i : Nat} {p : Int} (w : World) (hE : Errs a t w) (h : FaultAt a w ve i p) (hi : i < 8) :
    Calls Tryz.prog 16 #[ve, .agg #[.int .i64 ((i : Int) + 1), .int .i64 p]] w fun e w' => e = .returned (.bool true) ∧ Below w.heap.size w w' := by
  obtain ⟨q, rfl, h0, h1⟩ := h
  have hBa : Below w.heap.size w (w.alloc (.cells #[.int .i64 ((i : Int) + 1), .int .i64 p] 28)) := (Below.refl _ w).alloc (Nat.le_refl _) _
  have hb := fault_cells w (.int .i64 ((i : Int) + 1)) (.int .i64 p) 28
  have hco := code_fault (w.alloc (.cells #[.int .i64 ((i : Int) + 1), .int .i64 p] 28)) (hE.below hBa) q i hi p ((hBa.cell (p := ⟨q, 0, none⟩) (cell_lt h0)).trans h0) ((hBa.cell (p := ⟨q, 0 + 1, none⟩) (cell_lt h1)).trans h1)
  clear h0 h1 hE
  go_enter Tryz.func16, Tryz.ntmps16
  go_wp2_with fail
  refine hco.mono ?_
  clear hco
  rintro e w2 ⟨rfl, hB2⟩
  have c0 := (hB2.cell (p := ⟨w.heap.size, 0, none⟩) (by simp)).trans hb.1
  have c1 : w2.cell? ⟨w.heap.size, 1, none⟩ = some (.int .i64 p) := (hB2.cell (p := ⟨w.heap.size, 0 + 1, none⟩) (by simp)).trans hb.2
  have hn : (((i : Int) + 1) == 0) = false := beq_false_of_ne (by omega)
  have HB2 : Hid (Below w.heap.size w w2) := hBa.trans (hB2.mono (by simp))
  clear hB2 hb
  go_wp2
  go_ret
  exact ⟨rfl, HB2.out⟩
set_option maxRecDepth 100000 in
theorem faulted_nil (p : Int) (w : World) :
    Calls Tryz.prog 16 #[.nilIface, .agg #[.int .i64 0, .int .i64 p]] w fun e w' => e = .returned (.bool true) ∧ Below w.heap.size w w' := by
  have hBa : Below w.heap.size w (w.alloc (.cells #[.int .i64 0, .int .i64 p] 28)) := (Below.refl _ w).alloc (Nat.le_refl _) _
  have hb := (fault_cells w (.int .i64 0) (.int .i64 p) 28).1
  have hco := code_nil (w.alloc (.cells #[.int .i64 0, .int .i64 p] 28))
  go_enter Tryz.func16, Tryz.ntmps16
  go_wp2_with fail
  refine hco.mono ?_
  clear hco
  rintro e w2 ⟨rfl, rfl⟩
  go_wp2
  go_ret
  exact ⟨rfl, hBa⟩

end Go.Proofs.YtnnkmkhamipfiaaGreatDoor

namespace Go.Proofs.YtnnkmkhamipfiaaGreatDoor
open Go.RowKit Go.Sort

theorem setCell_self {W : World} {b j : Nat} {x : Value} (h : W.cell? ⟨b, j, none⟩ = some x) : W.setCell ⟨b, j, none⟩ x = W := by
  have e : (W.setCell ⟨b, j, none⟩ x).heap = W.heap := by
    unfold World.setCell
    unfold World.cell? at h
    simp only [Option.isSome_none, Bool.false_eq_true, if_false] at h ⊢
    refine Array.ext (by simp) fun i h1 h2 => ?_
    rw [Array.getElem_modify]
    by_cases ei : b = i
    · subst ei
      rw [if_pos rfl]
      rw [Array.getElem?_eq_getElem h2] at h
      cases ho : W.heap[b] with
      | cells cs t f =>
        rw [ho] at h
        simp only at h ⊢
        have e : cs.setIfInBounds j x = cs := by
          refine Array.ext (by simp) fun i h1 h2 => ?_
          rw [Array.getElem_setIfInBounds (by simpa using h1)]
          by_cases e : j = i
          · subst e; rw [if_pos rfl]; rw [Array.getElem?_eq_getElem h2] at h; exact (Option.some.inj h).symm
          · rw [if_neg e]
        rw [e]
      | _ => rfl
    · rw [if_neg ei]
  show ({ heap := (W.setCell ⟨b, j, none⟩ x).heap, tape := W.tape, drawn := W.drawn, os := W.os, output := W.output } : World) = W
  rw [e]

/-- A fault in its box. -/
structure FBox (b : Nat) (W : World) (c p : Int) : Prop where
  c0 : W.cell? ⟨b, 0, none⟩ = some (.int .i64 c)
  c1 : W.cell? ⟨b, 1, none⟩ = some (.int .i64 p)
  two : ∃ cs t, W.heap[b]? = some (.cells cs t (0, 0)) ∧ cs.size = 2
theorem fbox_new (W : World) (c p : Int) (t : TypeId) : FBox W.heap.size (W.alloc (.cells #[.int .i64 c, .int .i64 p] t)) c p := by
  have hg : (W.alloc (.cells #[.int .i64 c, .int .i64 p] t)).heap[W.heap.size]? = some (.cells #[.int .i64 c, .int .i64 p] t) := (Go.MapKept.heap_alloc W _).1
  exact ⟨(fault_cells W _ _ t).1, (fault_cells W _ _ t).2, _, _, hg, rfl⟩
theorem FBox.below {b : Nat} {W W' : World} {c p : Int} (h : FBox b W c p) (hB : Below W.heap.size W W') : FBox b W' c p := by
  have hl : b < W.heap.size := cell_lt h.c0
  obtain ⟨cs, t, h1, h2⟩ := h.two
  exact ⟨(hB.cell (p := ⟨b, 0, none⟩) hl).trans h.c0, (hB.cell (p := ⟨b, 1, none⟩) hl).trans h.c1, cs, t, (hB.block b hl).trans h1, h2⟩
theorem FBox.same {b : Nat} {W : World} {c p : Int} (h : FBox b W c p) : (W.setCell ⟨b, 0, none⟩ (.int .i64 c)).setCell ⟨b, 1, none⟩ (.int .i64 p) = W := by
  rw [setCell_self h.c0, setCell_self h.c1]
theorem FBox.put {b : Nat} {W : World} {c p : Int} (h : FBox b W c p) (c' p' : Int) : FBox b ((W.setCell ⟨b, 0, none⟩ (.int .i64 c')).setCell ⟨b, 1, none⟩ (.int .i64 p')) c' p' := by
  obtain ⟨cs, t, h1, h2⟩ := h.two
  have h3 := heap_setCell_same W b 0 _ t (.int .i64 c') h1
  have h4 := heap_setCell_same _ b 1 _ t (.int .i64 p') h3
  have ne : (⟨b, 0, none⟩ : Addr) ≠ ⟨b, 1, none⟩ := fun e => by cases e
  refine ⟨?_, World.cell?_setCell_same' _ _ _ ?_, _, _, h4, by simp [h2]⟩
  · rw [World.cell?_setCell_other _ _ _ _ (Ne.symm ne)]
    exact World.cell?_setCell_same' _ _ _ (by rw [h.c0]; rfl)
  · rw [World.cell?_setCell_other _ _ _ _ ne, h.c1]; rfl
theorem FBox.froz {b : Nat} {W : World} {c p : Int} (h : FBox b W c p) (k : Nat) : W.frozen? ⟨b, k, none⟩ = false := by
  obtain ⟨cs, t, h1, h2⟩ := h.two
  simp [World.frozen?, h1]
theorem FBox.ne {b : Nat} {W : World} {c p : Int} (h : FBox b W c p) {r k : Int} {v : Value} (hm : MatBox b W r k v) : False := by
  obtain ⟨cs, t, h1, h2⟩ := h.two
  have h3 := hm.c2.1
  simp [World.cell?, h1, h2] at h3

set_option maxRecDepth 100000 in
theorem faulted_es {a : Nat → Addr} {s : Nat → ByteArray} (w : World) (hE : Errs a s w) {i : Nat} (hi : i < 8) {c : Int} (hc : (i : Int) + 1 = c) :
    Calls Tryz.prog 16 #[.iface 250 (.pointer (some (a i))), .agg #[.int .i64 c, .int .i64 (-1)]] w fun e w' => e = .returned (.bool true) ∧ Below w.heap.size w w' := by
  subst hc
  have hBa : Below w.heap.size w (w.alloc (.cells #[.int .i64 ((i : Int) + 1), .int .i64 (-1)] 28)) := (Below.refl _ w).alloc (Nat.le_refl _) _
  have hb := fault_cells w (.int .i64 ((i : Int) + 1)) (.int .i64 (-1)) 28
  have hEa := hE.below hBa
  have ha : ∀ k, k < 8 → (a i = a k ↔ k = i) := fun k hk => ⟨fun h => by
    rcases Nat.decEq k i with h' | h'
    · exact absurd h.symm (hE.apart k i hk hi h')
    · exact h', fun h => by rw [h]⟩
  have hco := code_es _ hEa (a i) i (Nat.le_of_lt hi) ha (hEa.row i hi)
  rw [codeOf_lt hi] at hco
  clear hE hEa ha
  go_enter Tryz.func16, Tryz.ntmps16
  go_wp2_with fail
  refine hco.mono ?_
  clear hco
  rintro e w2 ⟨rfl, hB2⟩
  have c0 := (hB2.cell (p := ⟨w.heap.size, 0, none⟩) (by simp)).trans hb.1
  have c1 : w2.cell? ⟨w.heap.size, 1, none⟩ = some (.int .i64 (-1)) := (hB2.cell (p := ⟨w.heap.size, 0 + 1, none⟩) (by simp)).trans hb.2
  have hn : (((i : Int) + 1) == 0) = false := beq_false_of_ne (by omega)
  have HB2 : Hid (Below w.heap.size w w2) := hBa.trans (hB2.mono (by simp))
  clear hB2 hb
  go_wp2
  go_ret
  exact ⟨rfl, HB2.out⟩

end Go.Proofs.YtnnkmkhamipfiaaGreatDoor

namespace Go.Proofs.YtnnkmkhamipfiaaGreatDoor
open Go.RowKit Go.Sort

set_option maxRecDepth 100000 in
theorem ck_early (al ap : Option Addr) (n cl m cp : Nat) (d : Int) (w : World)
 (har : Calls Tryz.prog 5 #[] w fun e w' => e = .returned (.bool true) ∧ Below w.heap.size w w')
 (hli : ∀ V, Below w.heap.size w V → Calls Tryz.prog 6 #[.slice al n cl, .int .i64 60] V fun e w' => ∃ q : Bool, e = .returned (.bool q) ∧ (q = true → 60 < (m : Int)) ∧ Below V.heap.size V w') :
    Calls Tryz.prog 3 #[.slice al n cl, .slice ap m cp, .int .i64 d] w fun e w' => e = .returned (.bool true) ∧ Below w.heap.size w w' := by
  go_enter Tryz.func3, Tryz.ntmps3
  go_wp2_with fail
  refine har.mono ?_
  rintro e w1 ⟨rfl, hB1⟩
  have hl1 := hli w1 hB1
  have HB1 : Hid (Below w.heap.size w w1) := hB1
  clear har hli hB1
  go_wp2_with fail
  refine hl1.mono ?_
  clear hl1
  rintro e w2 ⟨q, rfl, hq, hB2⟩
  have HB2 : Hid (Below w.heap.size w w2) := HB1.out.trans (hB2.mono HB1.out.size)
  clear hB2 HB1
  cases q with
  | false =>
    clear hq
    go_wp2_with fail
    go_ret
    exact ⟨rfl, HB2.out⟩
  | true =>
    have h60 := hq rfl
    clear hq
    go_wp2_with fail
    go_ret
    exact ⟨rfl, HB2.out⟩

end Go.Proofs.YtnnkmkhamipfiaaGreatDoor

namespace Go.Proofs.YtnnkmkhamipfiaaGreatDoor
open Go.RowKit Go.Sort

set_option maxRecDepth 100000 in
set_option maxHeartbeats 8000000 in
theorem ck_bad {l : List (List Int)} {ps : List Duo} (al ap : Option Addr) (n cl m cp : Nat) (d : Int) (w : World) (h60 : (m : Int) ≤ 60)
 (har : Calls Tryz.prog 5 #[] w fun e w' => e = .returned (.bool true) ∧ Below w.heap.size w w')
 (hli : ∀ V, Below w.heap.size w V → Calls Tryz.prog 6 #[.slice al n cl, .int .i64 60] V fun e w' => (∃ q : Bool, e = .returned (.bool q)) ∧ Below V.heap.size V w')
 {EX : World → Value → Prop} (stay : ∀ W W' ve, EX W ve → Below W.heap.size W W' → EX W' ve) {c p : Int} (hc : 0 < c) (hc0 : (c == 0) = false)
 (hp : p = -1)
 (herr : ∀ V, Below w.heap.size w V → Calls Tryz.prog 7 #[.slice al n cl] V fun e w' => (e = .returned (.int .i64 c)) ∧ Below V.heap.size V w')
 (hcx : ∀ V, Below w.heap.size w V → Calls Tryz.prog 12 #[.slice al n cl] V fun e w' => (∃ v, e = .returned (.agg #[v]) ∧ Rows w' v l) ∧ Below V.heap.size V w')
 (hpa : ∀ V, Below w.heap.size w V → Calls Tryz.prog 13 #[.slice ap m cp] V fun e w' => (∃ u, e = .returned u ∧ DuoIn anyBlock w' u ps) ∧ Below V.heap.size V w')
 (hck : ∀ V v u, Below w.heap.size w V → Rows V v l → DuoIn anyBlock V u ps → Calls Tryz.prog 11 #[.agg #[v], u] V fun e w' => (∃ ve, e = .returned ve ∧ EX w' ve) ∧ Below V.heap.size V w')
 (hcr : ∀ V v u, Below w.heap.size w V → Rows V v l → DuoIn anyBlock V u ps → Calls Tryz.prog 14 #[.agg #[v], u] V fun e w' => (∃ ve, e = .returned (.tuple #[.slice none 0 0, ve]) ∧ EX w' ve) ∧ Below V.heap.size V w')
 (hbo : ∀ V v u, Below w.heap.size w V → Rows V v l → DuoIn anyBlock V u ps → Calls Tryz.prog 15 #[.agg #[v], u, .int .i64 d] V fun e w' => (∃ ve, e = .returned (.tuple #[.agg #[.int .i64 0, .int .i64 0, .slice none 0 0], ve]) ∧ EX w' ve) ∧ Below V.heap.size V w')
 (hfa : ∀ V ve, Below w.heap.size w V → EX V ve → Calls Tryz.prog 16 #[ve, .agg #[.int .i64 c, .int .i64 p]] V fun e w' => (e = .returned (.bool true)) ∧ Below V.heap.size V w')
    : Calls Tryz.prog 3 #[.slice al n cl, .slice ap m cp, .int .i64 d] w fun e w' => e = .returned (.bool true) ∧ Below w.heap.size w w' := by
  subst hp
  go_enter Tryz.func3, Tryz.ntmps3
  go_wp2_with fail
  refine har.mono ?_
  rintro e w1 ⟨rfl, hB1⟩
  have hl1 := hli w1 hB1
  have HB1 : Hid (Below w.heap.size w w1) := hB1
  clear har hli hB1
  go_wp2_with fail
  refine hl1.mono ?_
  clear hl1
  rintro e w2 ⟨⟨q, rfl⟩, hB2⟩
  have HB2 : Hid (Below w.heap.size w w2) := HB1.out.trans (hB2.mono HB1.out.size)
  clear hB2 HB1
  cases q with
  | false =>
    go_wp2_with fail
    go_ret
    exact ⟨rfl, HB2.out⟩
  | true =>
    have her := herr w2 HB2.out
    clear herr
    go_wp2_with fail
    refine her.mono ?_
    clear her
    rintro e w3 ⟨rfl, hB3⟩
    have HC : Hid (Below w.heap.size w w3) := HB2.out.trans (hB3.mono HB2.out.size)
    clear hB3 HB2
    go_upto_region 7 with fail
    have HF : Hid (FBox w3.heap.size (w3.alloc (.cells #[.int .i64 c, .int .i64 (-1)] 28)) c (-1)) := fbox_new w3 c (-1) 28
    have hfb : w.heap.size ≤ w3.heap.size := HC.out.size
    replace HC : Hid (Below w.heap.size w (w3.alloc (.cells #[.int .i64 c, .int .i64 (-1)] 28))) := HC.out.alloc HC.out.size _
    obtain ⟨W6, hW6⟩ : ∃ W6, w3.alloc (.cells #[.int .i64 c, .int .i64 (-1)] 28) = W6 := ⟨_, rfl⟩
    obtain ⟨fb, hfbe⟩ : ∃ fb, w3.heap.size = fb := ⟨_, rfl⟩
    rw [hfbe] at HF hfb
    rw [hW6] at HC HF
    rw [hW6, hfbe]
    have HFB : Hid (w.heap.size ≤ fb) := hfb
    clear hW6 hfbe hfb
    go_upto_region 14 with (first
      | (go_at_call 12; refine (hcx _ HC.out).mono ?_; rintro e V ⟨⟨v, rfl, hs⟩, hV⟩; replace HC := Hid.mk' (HC.out.trans (hV.mono HC.out.size)); replace HF := Hid.mk' (HF.out.below hV); have HR : Hid (Rows V v l) := hs; clear hV hs)
      | (go_at_call 13; refine (hpa _ HC.out).mono ?_; rintro e V ⟨⟨u, rfl, hs⟩, hV⟩; replace HC := Hid.mk' (HC.out.trans (hV.mono HC.out.size)); replace HF := Hid.mk' (HF.out.below hV); replace HR := Hid.mk' (HR.out.below hV); have HP : Hid (DuoIn anyBlock V u ps) := hs; clear hV hs)
      | (go_at_call 11; refine (hck _ _ _ HC.out HR.out HP.out).mono ?_; rintro e V ⟨⟨ve1, rfl, hx⟩, hV⟩; replace HC := Hid.mk' (HC.out.trans (hV.mono HC.out.size)); replace HF := Hid.mk' (HF.out.below hV); have HE1 : Hid (EX V ve1) := hx; clear hx; clear hV HR HP)
      | fail)
    go_upto_region 15 with (first
      | (go_at_call 12; refine (hcx _ HC.out).mono ?_; rintro e V ⟨⟨v, rfl, hs⟩, hV⟩; replace HC := Hid.mk' (HC.out.trans (hV.mono HC.out.size)); replace HF := Hid.mk' (HF.out.below hV); replace HE1 := Hid.mk' (stay _ _ _ HE1.out hV); have HR : Hid (Rows V v l) := hs; clear hV hs)
      | (go_at_call 13; refine (hpa _ HC.out).mono ?_; rintro e V ⟨⟨u, rfl, hs⟩, hV⟩; replace HC := Hid.mk' (HC.out.trans (hV.mono HC.out.size)); replace HF := Hid.mk' (HF.out.below hV); replace HE1 := Hid.mk' (stay _ _ _ HE1.out hV); replace HR := Hid.mk' (HR.out.below hV); have HP : Hid (DuoIn anyBlock V u ps) := hs; clear hV hs)
      | (go_at_call 14; refine (hcr _ _ _ HC.out HR.out HP.out).mono ?_; rintro e V ⟨⟨ve2, rfl, hx⟩, hV⟩; replace HC := Hid.mk' (HC.out.trans (hV.mono HC.out.size)); replace HF := Hid.mk' (HF.out.below hV); replace HE1 := Hid.mk' (stay _ _ _ HE1.out hV); have HE2 : Hid (EX V ve2) := hx; clear hx; clear hV HR HP)
      | fail)
    go_upto_region 16 with (first
      | (go_at_call 12; refine (hcx _ HC.out).mono ?_; rintro e V ⟨⟨v, rfl, hs⟩, hV⟩; replace HC := Hid.mk' (HC.out.trans (hV.mono HC.out.size)); replace HF := Hid.mk' (HF.out.below hV); replace HE1 := Hid.mk' (stay _ _ _ HE1.out hV); replace HE2 := Hid.mk' (stay _ _ _ HE2.out hV); have HR : Hid (Rows V v l) := hs; clear hV hs)
      | (go_at_call 13; refine (hpa _ HC.out).mono ?_; rintro e V ⟨⟨u, rfl, hs⟩, hV⟩; replace HC := Hid.mk' (HC.out.trans (hV.mono HC.out.size)); replace HF := Hid.mk' (HF.out.below hV); replace HE1 := Hid.mk' (stay _ _ _ HE1.out hV); replace HE2 := Hid.mk' (stay _ _ _ HE2.out hV); replace HR := Hid.mk' (HR.out.below hV); have HP : Hid (DuoIn anyBlock V u ps) := hs; clear hV hs)
      | (go_at_call 15; refine (hbo _ _ _ HC.out HR.out HP.out).mono ?_; rintro e V ⟨⟨ve3, rfl, hx⟩, hV⟩; replace HC := Hid.mk' (HC.out.trans (hV.mono HC.out.size)); replace HF := Hid.mk' (HF.out.below hV); replace HE1 := Hid.mk' (stay _ _ _ HE1.out hV); replace HE2 := Hid.mk' (stay _ _ _ HE2.out hV); have HE3 : Hid (EX V ve3) := hx; clear hx; clear hV HR HP)
      | fail)
    have HM : Hid (MatBox V.heap.size (V.alloc (.cells #[.int .i64 0, .int .i64 0, .slice none 0 0] 45)) 0 0 (.slice none 0 0)) := matBox_new V 0 0 (.slice none 0 0) 45
    have hV : Below V.heap.size V (V.alloc (.cells #[.int .i64 0, .int .i64 0, .slice none 0 0] 45)) := (Below.refl _ V).alloc (Nat.le_refl _) _
    replace HC := Hid.mk' (HC.out.trans (hV.mono HC.out.size))
    replace HF := Hid.mk' (HF.out.below hV)
    replace HE1 := Hid.mk' (stay _ _ _ HE1.out hV)
    replace HE2 := Hid.mk' (stay _ _ _ HE2.out hV)
    replace HE3 := Hid.mk' (stay _ _ _ HE3.out hV)
    obtain ⟨W15, hW15⟩ : ∃ W15, V.alloc (.cells #[.int .i64 0, .int .i64 0, .slice none 0 0] 45) = W15 := ⟨_, rfl⟩
    obtain ⟨mb, hmb⟩ : ∃ mb, V.heap.size = mb := ⟨_, rfl⟩
    rw [hW15, hmb] at HM
    rw [hW15] at HC HF HE1 HE2 HE3
    rw [hW15, hmb]
    clear hW15 hmb hV
    clear hcx hpa hck hcr hbo
    have f0 := HF.out.c0
    have f1 := HF.out.c1
    have f2 := HF.out.froz 0
    have f3 := HF.out.froz 1
    have k0 := HM.out.c0.1
    have k1 := HM.out.c1.1
    have k2 := HM.out.c2.1
    go_wp2_with (first
      | (go_at_call 16; refine (hfa _ _ HC.out HE1.out).mono ?_; rintro e V ⟨rfl, hV⟩; replace HC := Hid.mk' (HC.out.trans (hV.mono HC.out.size)); replace HF := Hid.mk' (HF.out.below hV); replace HE2 := Hid.mk' (stay _ _ _ HE2.out hV); replace HE3 := Hid.mk' (stay _ _ _ HE3.out hV); replace HM := Hid.mk' (HM.out.below hV); clear f0 f1 f2 f3 k0 k1 k2; have f0 := HF.out.c0; have f1 := HF.out.c1; have f2 := HF.out.froz 0; have f3 := HF.out.froz 1; have k0 := HM.out.c0.1; have k1 := HM.out.c1.1; have k2 := HM.out.c2.1; clear hV HE1)
      | (go_at_call 16; refine (hfa _ _ HC.out HE2.out).mono ?_; rintro e V ⟨rfl, hV⟩; replace HC := Hid.mk' (HC.out.trans (hV.mono HC.out.size)); replace HF := Hid.mk' (HF.out.below hV); replace HE3 := Hid.mk' (stay _ _ _ HE3.out hV); replace HM := Hid.mk' (HM.out.below hV); clear f0 f1 f2 f3 k0 k1 k2; have f0 := HF.out.c0; have f1 := HF.out.c1; have f2 := HF.out.froz 0; have f3 := HF.out.froz 1; have k0 := HM.out.c0.1; have k1 := HM.out.c1.1; have k2 := HM.out.c2.1; clear hV HE2)
      | (go_at_call 16; refine (hfa _ _ HC.out HE3.out).mono ?_; rintro e V ⟨rfl, hV⟩; replace HC := Hid.mk' (HC.out.trans (hV.mono HC.out.size)); replace HF := Hid.mk' (HF.out.below hV); replace HM := Hid.mk' (HM.out.below hV); clear f0 f1 f2 f3 k0 k1 k2; have f0 := HF.out.c0; have f1 := HF.out.c1; have f2 := HF.out.froz 0; have f3 := HF.out.froz 1; have k0 := HM.out.c0.1; have k1 := HM.out.c1.1; have k2 := HM.out.c2.1; clear hV HE3)
      | fail)
    go_ret
    exact ⟨rfl, HC.out⟩

end Go.Proofs.YtnnkmkhamipfiaaGreatDoor

namespace Go.Proofs.YtnnkmkhamipfiaaGreatDoor
open Go.RowKit Go.Sort

set_option maxRecDepth 100000 in
set_option maxHeartbeats 8000000 in
theorem ck_wrong {l all L : List (List Int)} {ps : List Duo} (al ap : Option Addr) (n cl m cp : Nat) (d : Int) (w : World) (h60 : (m : Int) ≤ 60)
 (har : Calls Tryz.prog 5 #[] w fun e w' => e = .returned (.bool true) ∧ Below w.heap.size w w')
 (hli : ∀ V, Below w.heap.size w V → Calls Tryz.prog 6 #[.slice al n cl, .int .i64 60] V fun e w' => (∃ q : Bool, e = .returned (.bool q)) ∧ Below V.heap.size V w')
 {EX : World → Value → Prop} (stay : ∀ W W' ve, EX W ve → Below W.heap.size W W' → EX W' ve) {c p : Int} (hc : 0 < c) (hc0 : (c == 0) = false)
 (herr : ∀ V, Below w.heap.size w V → Calls Tryz.prog 7 #[.slice al n cl] V fun e w' => (e = .returned (.int .i64 0)) ∧ Below V.heap.size V w')
 (hcl : ∀ V, Below w.heap.size w V → Calls Tryz.prog 8 #[.slice al n cl] V fun e w' => (∃ u, e = .returned (.tuple #[u, .int .i64 0]) ∧ Rows w' u all) ∧ Below V.heap.size V w')
 (hnb : ∀ V u, Below w.heap.size w V → Rows V u all → Calls Tryz.prog 9 #[u] V fun e w' => (∃ v, e = .returned v ∧ Rows w' v L) ∧ Below V.heap.size V w')
 (hpt : ∀ V v, Below w.heap.size w V → Rows V v L → Calls Tryz.prog 10 #[v, .slice ap m cp] V fun e w' => (e = .returned (.tuple #[.slice none 0 0, .agg #[.int .i64 c, .int .i64 p]])) ∧ Below V.heap.size V w')
 (hcx : ∀ V, Below w.heap.size w V → Calls Tryz.prog 12 #[.slice al n cl] V fun e w' => (∃ v, e = .returned (.agg #[v]) ∧ Rows w' v l) ∧ Below V.heap.size V w')
 (hpa : ∀ V, Below w.heap.size w V → Calls Tryz.prog 13 #[.slice ap m cp] V fun e w' => (∃ u, e = .returned u ∧ DuoIn anyBlock w' u ps) ∧ Below V.heap.size V w')
 (hck : ∀ V v u, Below w.heap.size w V → Rows V v l → DuoIn anyBlock V u ps → Calls Tryz.prog 11 #[.agg #[v], u] V fun e w' => (∃ ve, e = .returned ve ∧ EX w' ve) ∧ Below V.heap.size V w')
 (hcr : ∀ V v u, Below w.heap.size w V → Rows V v l → DuoIn anyBlock V u ps → Calls Tryz.prog 14 #[.agg #[v], u] V fun e w' => (∃ ve, e = .returned (.tuple #[.slice none 0 0, ve]) ∧ EX w' ve) ∧ Below V.heap.size V w')
 (hbo : ∀ V v u, Below w.heap.size w V → Rows V v l → DuoIn anyBlock V u ps → Calls Tryz.prog 15 #[.agg #[v], u, .int .i64 d] V fun e w' => (∃ ve, e = .returned (.tuple #[.agg #[.int .i64 0, .int .i64 0, .slice none 0 0], ve]) ∧ EX w' ve) ∧ Below V.heap.size V w')
 (hfa : ∀ V ve, Below w.heap.size w V → EX V ve → Calls Tryz.prog 16 #[ve, .agg #[.int .i64 c, .int .i64 p]] V fun e w' => (e = .returned (.bool true)) ∧ Below V.heap.size V w')
    : Calls Tryz.prog 3 #[.slice al n cl, .slice ap m cp, .int .i64 d] w fun e w' => e = .returned (.bool true) ∧ Below w.heap.size w w' := by
  go_enter Tryz.func3, Tryz.ntmps3
  go_wp2_with fail
  refine har.mono ?_
  rintro e w1 ⟨rfl, hB1⟩
  have hl1 := hli w1 hB1
  have HB1 : Hid (Below w.heap.size w w1) := hB1
  clear har hli hB1
  go_wp2_with fail
  refine hl1.mono ?_
  clear hl1
  rintro e w2 ⟨⟨q, rfl⟩, hB2⟩
  have HB2 : Hid (Below w.heap.size w w2) := HB1.out.trans (hB2.mono HB1.out.size)
  clear hB2 HB1
  cases q with
  | false =>
    go_wp2_with fail
    go_ret
    exact ⟨rfl, HB2.out⟩
  | true =>
    have her := herr w2 HB2.out
    clear herr
    go_wp2_with fail
    refine her.mono ?_
    clear her
    rintro e w3 ⟨rfl, hB3⟩
    have HC : Hid (Below w.heap.size w w3) := HB2.out.trans (hB3.mono HB2.out.size)
    clear hB3 HB2
    go_upto_region 7 with fail
    have HF : Hid (FBox w3.heap.size (w3.alloc (.cells #[.int .i64 0, .int .i64 (-1)] 28)) 0 (-1)) := fbox_new w3 0 (-1) 28
    have hfb : w.heap.size ≤ w3.heap.size := HC.out.size
    replace HC : Hid (Below w.heap.size w (w3.alloc (.cells #[.int .i64 0, .int .i64 (-1)] 28))) := HC.out.alloc HC.out.size _
    obtain ⟨W6, hW6⟩ : ∃ W6, w3.alloc (.cells #[.int .i64 0, .int .i64 (-1)] 28) = W6 := ⟨_, rfl⟩
    obtain ⟨fb, hfbe⟩ : ∃ fb, w3.heap.size = fb := ⟨_, rfl⟩
    rw [hfbe] at HF hfb
    rw [hW6] at HC HF
    rw [hW6, hfbe]
    have HFB : Hid (w.heap.size ≤ fb) := hfb
    clear hW6 hfbe hfb
    go_upto_region 12 with (first
      | (go_at_call 8; refine (hcl _ HC.out).mono ?_; rintro e V ⟨⟨u, rfl, hs⟩, hV⟩; replace HC := Hid.mk' (HC.out.trans (hV.mono HC.out.size)); replace HF := Hid.mk' (HF.out.below hV); have HU : Hid (Rows V u all) := hs; obtain ⟨au, cu, rfl, -, -⟩ := hs.open_; clear hV)
      | (go_at_call 9; refine (hnb _ _ HC.out HU.out).mono ?_; rintro e V ⟨⟨u, rfl, hs⟩, hV⟩; replace HC := Hid.mk' (HC.out.trans (hV.mono HC.out.size)); replace HF := Hid.mk' (HF.out.below hV); have HN : Hid (Rows V u L) := hs; obtain ⟨aL, cL, rfl, -, -⟩ := hs.open_; clear hV HU hs)
      | fail)
    go_upto_region 13 with (first
      | (go_at_call 10; refine (hpt _ _ HC.out HN.out).mono ?_; rintro e V ⟨rfl, hV⟩; replace HC := Hid.mk' (HC.out.trans (hV.mono HC.out.size)); replace HF := Hid.mk' (HF.out.below hV); have f0 := HF.out.c0; have f1 := HF.out.c1; have ff := HF.out.froz 0; have fg := HF.out.froz 1; clear hV HN)
      | fail)
    have hst := HF.out.put c p
    have HF2 : Hid (FBox fb ((V.setCell ⟨fb, 0, none⟩ (.int .i64 c)).setCell ⟨fb, 1, none⟩ (.int .i64 p)) c p) := hst
    replace HC : Hid (Below w.heap.size w ((V.setCell ⟨fb, 0, none⟩ (.int .i64 c)).setCell ⟨fb, 1, none⟩ (.int .i64 p))) := (HC.out.setCell (p := ⟨fb, 0, none⟩) HFB.out _).setCell (p := ⟨fb, 1, none⟩) HFB.out _
    clear hst HF f0 f1 ff fg
    have HF := HF2
    clear HF2
    obtain ⟨Z, hZ⟩ : ∃ Z, (V.setCell ⟨fb, 0, none⟩ (.int .i64 c)).setCell ⟨fb, 1, none⟩ (.int .i64 p) = Z := ⟨_, rfl⟩
    rw [hZ] at HC HF ⊢
    clear hZ hcl hnb hpt
    go_upto_region 14 with (first
      | (go_at_call 12; refine (hcx _ HC.out).mono ?_; rintro e V ⟨⟨v, rfl, hs⟩, hV⟩; replace HC := Hid.mk' (HC.out.trans (hV.mono HC.out.size)); replace HF := Hid.mk' (HF.out.below hV); have HR : Hid (Rows V v l) := hs; clear hV hs)
      | (go_at_call 13; refine (hpa _ HC.out).mono ?_; rintro e V ⟨⟨u, rfl, hs⟩, hV⟩; replace HC := Hid.mk' (HC.out.trans (hV.mono HC.out.size)); replace HF := Hid.mk' (HF.out.below hV); replace HR := Hid.mk' (HR.out.below hV); have HP : Hid (DuoIn anyBlock V u ps) := hs; clear hV hs)
      | (go_at_call 11; refine (hck _ _ _ HC.out HR.out HP.out).mono ?_; rintro e V ⟨⟨ve1, rfl, hx⟩, hV⟩; replace HC := Hid.mk' (HC.out.trans (hV.mono HC.out.size)); replace HF := Hid.mk' (HF.out.below hV); have HE1 : Hid (EX V ve1) := hx; clear hx; clear hV HR HP)
      | fail)
    go_upto_region 15 with (first
      | (go_at_call 12; refine (hcx _ HC.out).mono ?_; rintro e V ⟨⟨v, rfl, hs⟩, hV⟩; replace HC := Hid.mk' (HC.out.trans (hV.mono HC.out.size)); replace HF := Hid.mk' (HF.out.below hV); replace HE1 := Hid.mk' (stay _ _ _ HE1.out hV); have HR : Hid (Rows V v l) := hs; clear hV hs)
      | (go_at_call 13; refine (hpa _ HC.out).mono ?_; rintro e V ⟨⟨u, rfl, hs⟩, hV⟩; replace HC := Hid.mk' (HC.out.trans (hV.mono HC.out.size)); replace HF := Hid.mk' (HF.out.below hV); replace HE1 := Hid.mk' (stay _ _ _ HE1.out hV); replace HR := Hid.mk' (HR.out.below hV); have HP : Hid (DuoIn anyBlock V u ps) := hs; clear hV hs)
      | (go_at_call 14; refine (hcr _ _ _ HC.out HR.out HP.out).mono ?_; rintro e V ⟨⟨ve2, rfl, hx⟩, hV⟩; replace HC := Hid.mk' (HC.out.trans (hV.mono HC.out.size)); replace HF := Hid.mk' (HF.out.below hV); replace HE1 := Hid.mk' (stay _ _ _ HE1.out hV); have HE2 : Hid (EX V ve2) := hx; clear hx; clear hV HR HP)
      | fail)
    go_upto_region 16 with (first
      | (go_at_call 12; refine (hcx _ HC.out).mono ?_; rintro e V ⟨⟨v, rfl, hs⟩, hV⟩; replace HC := Hid.mk' (HC.out.trans (hV.mono HC.out.size)); replace HF := Hid.mk' (HF.out.below hV); replace HE1 := Hid.mk' (stay _ _ _ HE1.out hV); replace HE2 := Hid.mk' (stay _ _ _ HE2.out hV); have HR : Hid (Rows V v l) := hs; clear hV hs)
      | (go_at_call 13; refine (hpa _ HC.out).mono ?_; rintro e V ⟨⟨u, rfl, hs⟩, hV⟩; replace HC := Hid.mk' (HC.out.trans (hV.mono HC.out.size)); replace HF := Hid.mk' (HF.out.below hV); replace HE1 := Hid.mk' (stay _ _ _ HE1.out hV); replace HE2 := Hid.mk' (stay _ _ _ HE2.out hV); replace HR := Hid.mk' (HR.out.below hV); have HP : Hid (DuoIn anyBlock V u ps) := hs; clear hV hs)
      | (go_at_call 15; refine (hbo _ _ _ HC.out HR.out HP.out).mono ?_; rintro e V ⟨⟨ve3, rfl, hx⟩, hV⟩; replace HC := Hid.mk' (HC.out.trans (hV.mono HC.out.size)); replace HF := Hid.mk' (HF.out.below hV); replace HE1 := Hid.mk' (stay _ _ _ HE1.out hV); replace HE2 := Hid.mk' (stay _ _ _ HE2.out hV); have HE3 : Hid (EX V ve3) := hx; clear hx; clear hV HR HP)
      | fail)
    have HM : Hid (MatBox V.heap.size (V.alloc (.cells #[.int .i64 0, .int .i64 0, .slice none 0 0] 45)) 0 0 (.slice none 0 0)) := matBox_new V 0 0 (.slice none 0 0) 45
    have hV : Below V.heap.size V (V.alloc (.cells #[.int .i64 0, .int .i64 0, .slice none 0 0] 45)) := (Below.refl _ V).alloc (Nat.le_refl _) _
    replace HC := Hid.mk' (HC.out.trans (hV.mono HC.out.size))
    replace HF := Hid.mk' (HF.out.below hV)
    replace HE1 := Hid.mk' (stay _ _ _ HE1.out hV)
    replace HE2 := Hid.mk' (stay _ _ _ HE2.out hV)
    replace HE3 := Hid.mk' (stay _ _ _ HE3.out hV)
    obtain ⟨W15, hW15⟩ : ∃ W15, V.alloc (.cells #[.int .i64 0, .int .i64 0, .slice none 0 0] 45) = W15 := ⟨_, rfl⟩
    obtain ⟨mb, hmb⟩ : ∃ mb, V.heap.size = mb := ⟨_, rfl⟩
    rw [hW15, hmb] at HM
    rw [hW15] at HC HF HE1 HE2 HE3
    rw [hW15, hmb]
    clear hW15 hmb hV
    clear hcx hpa hck hcr hbo
    have f0 := HF.out.c0
    have f1 := HF.out.c1
    have f2 := HF.out.froz 0
    have f3 := HF.out.froz 1
    have k0 := HM.out.c0.1
    have k1 := HM.out.c1.1
    have k2 := HM.out.c2.1
    go_wp2_with (first
      | (go_at_call 16; refine (hfa _ _ HC.out HE1.out).mono ?_; rintro e V ⟨rfl, hV⟩; replace HC := Hid.mk' (HC.out.trans (hV.mono HC.out.size)); replace HF := Hid.mk' (HF.out.below hV); replace HE2 := Hid.mk' (stay _ _ _ HE2.out hV); replace HE3 := Hid.mk' (stay _ _ _ HE3.out hV); replace HM := Hid.mk' (HM.out.below hV); clear f0 f1 f2 f3 k0 k1 k2; have f0 := HF.out.c0; have f1 := HF.out.c1; have f2 := HF.out.froz 0; have f3 := HF.out.froz 1; have k0 := HM.out.c0.1; have k1 := HM.out.c1.1; have k2 := HM.out.c2.1; clear hV HE1)
      | (go_at_call 16; refine (hfa _ _ HC.out HE2.out).mono ?_; rintro e V ⟨rfl, hV⟩; replace HC := Hid.mk' (HC.out.trans (hV.mono HC.out.size)); replace HF := Hid.mk' (HF.out.below hV); replace HE3 := Hid.mk' (stay _ _ _ HE3.out hV); replace HM := Hid.mk' (HM.out.below hV); clear f0 f1 f2 f3 k0 k1 k2; have f0 := HF.out.c0; have f1 := HF.out.c1; have f2 := HF.out.froz 0; have f3 := HF.out.froz 1; have k0 := HM.out.c0.1; have k1 := HM.out.c1.1; have k2 := HM.out.c2.1; clear hV HE2)
      | (go_at_call 16; refine (hfa _ _ HC.out HE3.out).mono ?_; rintro e V ⟨rfl, hV⟩; replace HC := Hid.mk' (HC.out.trans (hV.mono HC.out.size)); replace HF := Hid.mk' (HF.out.below hV); replace HM := Hid.mk' (HM.out.below hV); clear f0 f1 f2 f3 k0 k1 k2; have f0 := HF.out.c0; have f1 := HF.out.c1; have f2 := HF.out.froz 0; have f3 := HF.out.froz 1; have k0 := HM.out.c0.1; have k1 := HM.out.c1.1; have k2 := HM.out.c2.1; clear hV HE3)
      | fail)
    go_ret
    exact ⟨rfl, HC.out⟩

end Go.Proofs.YtnnkmkhamipfiaaGreatDoor
