/- What the reference's Ahead answers; nothing is written. What the reference's readers of faces answer: Ahead, PartOf, SameLists; nothing is written. What the reference's SameLists answers; nothing is written. The map that holds a complex's faces by their texts: how it reads, and that holds tells whether a face is there. What parts answers: the texts of a face without its vertex 0, 1, .., in new memory. -/
import Derived.Test.YtnnkmkhamipfiaaGreatDoorRefPart
import Derived.Maps.OwnSet
import Derived.Maps.RangeWalk
import Derived.Sort.KeysCollected
import Derived.StringKeys
import Derived.Deep.OwnRows
import Derived.Deep.RegionHeld3
namespace Go.Proofs.YtnnkmkhamipfiaaGreatDoor
open Go.RowKit Go.Sort

theorem ahead_at : ∀ (k : Nat) (xs ys : List Int), xs.take k = ys.take k → ∀ (hx : k < xs.length) (hy : k < ys.length), xs[k] ≠ ys[k] → ahead xs ys = decide (xs[k] < ys[k])
  | _, [], _, _, hx, _, _ => absurd hx (by simp)
  | _, _ :: _, [], _, _, hy, _ => absurd hy (by simp)
  | 0, x :: xs, y :: ys, _, _, _, h => by
    simp at h
    simp [ahead, h]
  | k + 1, x :: xs, y :: ys, ht, hx, hy, h => by
    simp at ht h
    obtain ⟨rfl, ht⟩ := ht
    simp only [ahead, if_pos, List.getElem_cons_succ]
    exact ahead_at k xs ys ht (by simpa using hx) (by simpa using hy) h

theorem ahead_end : ∀ (k : Nat) (xs ys : List Int), xs.take k = ys.take k → (xs.length ≤ k ∨ ys.length ≤ k) → ahead xs ys = decide (xs.length < ys.length)
  | _, [], [], _, _ => by simp [ahead]
  | _, [], _ :: _, _, _ => by simp [ahead]
  | _, _ :: _, [], _, _ => by simp [ahead]
  | 0, _ :: _, _ :: _, _, h => by simp at h
  | k + 1, x :: xs, y :: ys, ht, h => by
    simp at ht h
    obtain ⟨rfl, ht⟩ := ht
    simp only [ahead, if_pos, List.length_cons, Nat.add_lt_add_iff_right]
    exact ahead_end k xs ys ht h

theorem ahead_ (va vb : Value) (xs ys : List Int) (w : World) (ha : Ints w va xs) (hb : Ints w vb ys) (hx : xs.length ≤ 1000000) :
    Calls Tryz.prog 59 #[va, vb] w fun e w' => e = .returned (.bool (ahead xs ys)) ∧ ∃ q, w' = w.drewN q := by
  obtain ⟨a, ca, rfl, -, ha⟩ := ha.open_
  obtain ⟨b, cb, rfl, -, hb⟩ := hb.open_
  go_enter Tryz.func59, Tryz.ntmps59
  go_wp2
  go_loopw [5] (fun v W => ∃ k q : Nat, k ≤ xs.length ∧ v = .int .i64 k ∧ W = w.drewN q ∧ xs.take k = ys.take k) (fun v _ => xs.length - (intOf v).toNat)
  case atStart => exact ⟨0, 0, by omega, rfl, rfl, by simp⟩
  case round =>
    obtain ⟨k, q, hk, rfl, rfl, ht⟩ := hrel
    have HT : Hid (xs.take k = ys.take k) := ht
    clear ht
    by_cases hlt : k < xs.length
    · by_cases hlu : k < ys.length
      · obtain ⟨b1, o1, rfl, -, -, c1⟩ := ha (by omega)
        obtain ⟨b2, o2, rfl, -, -, c2⟩ := hb (by omega)
        have g1 := c1 k hlt
        have g2 := c2 k hlu
        clear c1 c2 ha hb
        obtain ⟨x, hxe⟩ : ∃ x, xs[k]?.getD 0 = x := ⟨_, rfl⟩
        obtain ⟨y, hye⟩ : ∃ y, ys[k]?.getD 0 = y := ⟨_, rfl⟩
        rw [hxe] at g1
        rw [hye] at g2
        have HX : Hid (xs[k]?.getD 0 = x) := hxe
        have HY : Hid (ys[k]?.getD 0 = y) := hye
        clear hxe hye
        by_cases heq : x = y
        · subst heq
          go_wp2_with fail
          go_quiet (fail)
          go_wp2
          go_roundw
          case rel => exact ⟨k + 1, _, by omega, by go_num, rfl, take_snoc HT.out hlt hlu (HX.out.trans HY.out.symm)⟩
          case measure => simp [intOf]; omega
        · have hne : (x != y) = true := by simpa using heq
          have HE : Hid (¬ x = y) := heq
          clear heq
          go_wp2_with fail
          go_quiet (fail)
          go_wp2_with fail
          go_quiet (fail)
          go_wp2
          go_ret
          refine ⟨?_, by simp only [World.drewN_drewN]; exact ⟨_, rfl⟩⟩
          have h1 : xs[k] = x := by have := HX.out; simpa [hlt] using this
          have h2 : ys[k] = y := by have := HY.out; simpa [hlu] using this
          rw [ahead_at k xs ys HT.out hlt hlu (by rw [h1, h2]; exact HE.out), h1, h2]; rfl
      · clear ha hb
        go_wp2
        go_ret
        refine ⟨?_, q, rfl⟩
        rw [ahead_end k xs ys HT.out (by omega)]
        simp
    · clear ha hb
      go_wp2
      go_ret
      refine ⟨?_, q, rfl⟩
      rw [ahead_end k xs ys HT.out (by omega)]
      simp

end Go.Proofs.YtnnkmkhamipfiaaGreatDoor

namespace Go.Proofs.YtnnkmkhamipfiaaGreatDoor
end Go.Proofs.YtnnkmkhamipfiaaGreatDoor

namespace Go.Proofs.YtnnkmkhamipfiaaGreatDoor
open Go.RowKit Go.Sort

theorem takes_snoc {xs ys : List (List Int)} {k : Nat} (h : xs.take k = ys.take k) (hx : k < xs.length) (hy : k < ys.length) (e : xs[k]?.getD [] = ys[k]?.getD []) : xs.take (k + 1) = ys.take (k + 1) := by
  rw [List.take_add_one, List.take_add_one, h]
  simp [hx, hy] at e
  simp [hx, hy, e]

theorem same_lists (va vb : Value) (xs ys : List (List Int)) (w : World) (ha : Rows w va xs) (hb : Rows w vb ys) (hx : xs.length ≤ 1000000) (hm : ∀ x ∈ xs, x.length ≤ 1000000) :
    Calls Tryz.prog 31 #[va, vb] w fun e w' => e = .returned (.bool (decide (xs = ys))) ∧ ∃ q, w' = w.drewN q := by
  obtain ⟨a, ca, rfl, -, ha⟩ := ha.open_
  obtain ⟨b, cb, rfl, -, hb⟩ := hb.open_
  by_cases hl : xs.length = ys.length
  · rw [← hl]
    go_enter Tryz.func31, Tryz.ntmps31
    go_wp2
    go_loopw [5] (fun v W => ∃ k q : Nat, k ≤ xs.length ∧ v = .int .i64 k ∧ W = w.drewN q ∧ xs.take k = ys.take k) (fun v _ => xs.length - (intOf v).toNat)
    case atStart => exact ⟨0, 0, by omega, rfl, rfl, by simp⟩
    case round =>
      obtain ⟨k, q, hk, rfl, hw, ht⟩ := hrel
      have HW : Hid (wr = w.drewN q) := hw
      have HT : Hid (xs.take k = ys.take k) := ht
      have HL : Hid (xs.length = ys.length) := hl
      have HM : Hid (∀ x ∈ xs, x.length ≤ 1000000) := hm
      have hy' : k < xs.length → k < ys.length := by omega
      clear ht hl hm
      by_cases hlt : k < xs.length
      · obtain ⟨b1, o1, rfl, -, -, c1⟩ := ha (by omega)
        obtain ⟨b2, o2, rfl, -, -, c2⟩ := hb (by have := hy' hlt; omega)
        obtain ⟨a1, p1, g1, i1⟩ := c1 k hlt
        obtain ⟨a2, p2, g2, i2⟩ := c2 k (hy' hlt)
        clear c1 c2 ha hb
        have hlen : (xs[k]?.getD []).length ≤ 1000000 := HM.out _ (by simp [hlt])
        obtain ⟨x, hxe⟩ : ∃ x, xs[k]?.getD [] = x := ⟨_, rfl⟩
        obtain ⟨y, hye⟩ : ∃ y, ys[k]?.getD [] = y := ⟨_, rfl⟩
        rw [hxe] at g1 i1 hlen
        rw [hye] at g2 i2
        have g1 : wr.cell? ⟨b1, o1 + k, none⟩ = some (.slice a1 x.length p1) := by rw [hw]; exact g1
        have g2 : wr.cell? ⟨b2, o2 + k, none⟩ = some (.slice a2 y.length p2) := by rw [hw]; exact g2
        have i1 : Ints wr (.slice a1 x.length p1) x := by rw [hw]; exact i1
        have i2 : Ints wr (.slice a2 y.length p2) y := by rw [hw]; exact i2
        clear hw
        have HX : Hid (xs[k]?.getD [] = x) := hxe
        have HY : Hid (ys[k]?.getD [] = y) := hye
        clear hxe hye
        have hc : ∀ n, Calls Tryz.prog 17 #[.slice a1 x.length p1, .slice a2 y.length p2] (wr.drewN n) _ := fun n => same_ints _ _ x y (wr.drewN n) i1 i2 hlen
        obtain ⟨c, hce⟩ : ∃ c, decide (x = y) = c := ⟨_, rfl⟩
        simp only [hce] at hc
        have HC : Hid (decide (x = y) = c) := hce
        clear hce i1 i2
        cases c with
        | true =>
          go_wp2_with fail
          go_quiet ((go_at_call 17; exact Calls.quiet_of (hc _)))
          go_wp2
          go_roundw
          case rel => exact ⟨k + 1, q + nq, by omega, by go_num, by rw [HW.out, World.drewN_drewN], takes_snoc HT.out hlt (hy' hlt) (by rw [HX.out, HY.out]; exact of_decide_eq_true HC.out)⟩
          case measure => simp [intOf]; omega
        | false =>
          go_wp2_with fail
          go_quiet ((go_at_call 17; exact Calls.quiet_of (hc _)))
          go_wp2
          go_ret
          refine ⟨?_, q + nq, by rw [HW.out, World.drewN_drewN]⟩
          have : xs ≠ ys := fun h => (of_decide_eq_false HC.out) (by rw [← HX.out, ← HY.out, h])
          rw [decide_eq_false this]; rfl
      · clear ha hb hw
        go_wp2
        go_ret
        refine ⟨?_, q, HW.out⟩
        have h1 := HT.out
        have h2 := HL.out
        rw [List.take_of_length_le (by omega), List.take_of_length_le (by omega)] at h1
        rw [decide_eq_true h1]; rfl
  · have hne : xs ≠ ys := fun h => hl (by rw [h])
    go_enter Tryz.func31, Tryz.ntmps31
    clear ha hb
    go_wp2
    go_ret
    exact ⟨by rw [decide_eq_false hne]; rfl, 0, rfl⟩

end Go.Proofs.YtnnkmkhamipfiaaGreatDoor

namespace Go.Proofs.YtnnkmkhamipfiaaGreatDoor
open Go.RowKit Go.Sort Go.Maps

theorem law_string : Keyed Tryz.prog 9 := string_keyed Tryz.underlying9
theorem zero_int (w : World) : (zeroValue 3).run Tryz.prog w = .ok (.int .i64 0) w := by kernel_rfl
theorem key_of (x : List UInt8) (h : x.length ≤ maxLen) : keyOf Tryz.prog 9 (encStr x) = some (.string x) := by
  have := Go.WideMaps.keyOf_string_mk (P := Tryz.prog) Tryz.underlying9 (s := ⟨x.toArray⟩) (by simpa [ByteArray.size] using h)
  simpa [encStr] using this

/-- Block b is a map that holds the texts F, each with whether it is one of G. -/
def PileAt (w : World) (b : Nat) (F : List (List UInt8)) (G : List UInt8 → Prop) : Prop :=
  ∃ D : DataW Unit, w.ownsMap Tryz.prog 9 (plainElem Tryz.prog 3) b F.length D ∧ (∀ x : List UInt8, Maps.has D (.string x) = true ↔ x ∈ F) ∧ Maps.size D = F.length ∧
    ∀ x ∈ F, (G x → D.atKey (.string x) (.lit (.int .i64 0)) = .lit (.int .i64 1)) ∧ (¬ G x → D.atKey (.string x) (.lit (.int .i64 0)) = .lit (.int .i64 0))

theorem own_tight {H : Type} {w : World} {P : Program} {k : TypeId} {R : Value → Option (DataW H × List MemPlace)} {b n : Nat} {D : DataW H} (h : w.ownsMap P k R b n D) {m : Nat} (hm : Maps.size D ≤ m) : w.ownsMap P k R b m D := by
  obtain ⟨es, clock, h1, h2, _, rfl⟩ := h
  exact ⟨es, clock, h1, h2, by simpa [Maps.size, length_sorted] using hm, rfl⟩

theorem PileAt.kept {w w' : World} {b : Nat} {F : List (List UInt8)} {G : List UInt8 → Prop} {row : Option Nat} (h : PileAt w b F G) (hg : w.grownBy w' row) (hne : some b ≠ row) : PileAt w' b F G := by
  obtain ⟨D, h1, h2⟩ := h
  exact ⟨D, h1.kept hg hne, h2⟩
theorem PileAt.below {w w' : World} {b : Nat} {F : List (List UInt8)} {G : List UInt8 → Prop} (h : PileAt w b F G) (hB : Below w.heap.size w w') : PileAt w' b F G := h.kept (Below.grownBy hB) (by simp)
theorem PileAt.lt {w : World} {b : Nat} {F : List (List UInt8)} {G : List UInt8 → Prop} (h : PileAt w b F G) : b < w.heap.size := by
  obtain ⟨D, h1, _⟩ := h
  exact h1.lt

theorem string_key (x : List UInt8) : WideAt.IsKeyLit (.string x) := trivial
theorem string_ne {x y : List UInt8} (h : x ≠ y) : (Lit.string x) ≠ Lit.string y := fun e => h (by cases e; rfl)

/-- A new face is stored, told as an outer one. -/
theorem pile_new {w' : World} {b n : Nat} {F : List (List UInt8)} {G : List UInt8 → Prop} {D : DataW Unit} {f : List UInt8} (hf : f ∉ F) (hG : ∀ x, G x → x ∈ F) (hD : Tidy D)
    (h2 : ∀ x : List UInt8, Maps.has D (.string x) = true ↔ x ∈ F) (h3 : Maps.size D = F.length)
    (h4 : ∀ x ∈ F, (G x → D.atKey (.string x) (.lit (.int .i64 0)) = .lit (.int .i64 1)) ∧ (¬ G x → D.atKey (.string x) (.lit (.int .i64 0)) = .lit (.int .i64 0)))
    (h1 : w'.ownsMap Tryz.prog 9 (plainElem Tryz.prog 3) b n (D.put (.string f) (.lit (.int .i64 0)))) : PileAt w' b (F ++ [f]) G := by
  have hno : Maps.has D (.string f) = false := by
    cases e : Maps.has D (.string f)
    · rfl
    · exact absurd ((h2 f).1 e) hf
  have hsz : Maps.size (D.put (.string f) (.lit (.int .i64 0))) = (F ++ [f]).length := by rw [size_put hD, hno]; simp [h3]
  refine ⟨_, own_tight h1 (Nat.le_of_eq hsz), fun x => ?_, hsz, fun x hx => ?_⟩
  · by_cases e : x = f
    · subst e; rw [has_put_same hD.isMap (string_key x)]; simp
    · rw [has_put_other (string_ne e), h2]; simp [e]
  · by_cases e : x = f
    · subst e
      rw [atKey_put_same hD.isMap (string_key x)]
      exact ⟨fun h => absurd (hG x h) hf, fun _ => rfl⟩
    · rw [atKey_put_other (string_ne e)]
      exact h4 x (by simpa [e] using hx)

/-- A face that is there is told to be a part. -/
theorem pile_mark {w' : World} {b n : Nat} {F : List (List UInt8)} {G : List UInt8 → Prop} {D : DataW Unit} {f : List UInt8} (hf : f ∈ F) (hD : Tidy D)
    (h2 : ∀ x : List UInt8, Maps.has D (.string x) = true ↔ x ∈ F) (h3 : Maps.size D = F.length)
    (h4 : ∀ x ∈ F, (G x → D.atKey (.string x) (.lit (.int .i64 0)) = .lit (.int .i64 1)) ∧ (¬ G x → D.atKey (.string x) (.lit (.int .i64 0)) = .lit (.int .i64 0)))
    (h1 : w'.ownsMap Tryz.prog 9 (plainElem Tryz.prog 3) b n (D.put (.string f) (.lit (.int .i64 1)))) : PileAt w' b F (fun x => G x ∨ x = f) := by
  have hsz : Maps.size (D.put (.string f) (.lit (.int .i64 1))) = F.length := by rw [size_put hD, (h2 f).2 hf]; simp [h3]
  refine ⟨_, own_tight h1 (Nat.le_of_eq hsz), fun x => ?_, hsz, fun x hx => ?_⟩
  · by_cases e : x = f
    · subst e; rw [has_put_same hD.isMap (string_key x)]; simp [hf]
    · rw [has_put_other (string_ne e), h2]
  · by_cases e : x = f
    · subst e
      rw [atKey_put_same hD.isMap (string_key x)]
      exact ⟨fun _ => rfl, fun h => absurd (.inr rfl) h⟩
    · rw [atKey_put_other (string_ne e)]
      refine ⟨fun h => (h4 x hx).1 (h.elim id (fun h => absurd h e)), fun h => (h4 x hx).2 (fun g => h (.inl g))⟩

theorem holds_ (b : Nat) (F : List (List UInt8)) (G : List UInt8 → Prop) (x : List UInt8) (w : World) (h : PileAt w b F G) (hx : x.length ≤ 1000000) :
    Calls Tryz.prog 149 #[.map (some b), encStr x] w fun e w' => e = .returned (.bool (decide (x ∈ F))) ∧ w' = w := by
  obtain ⟨D, h1, h2, -, -⟩ := h
  have hkey := key_of x (by unfold maxLen; omega)
  have hb : Maps.has D (.string x) = decide (x ∈ F) := by
    cases e : Maps.has D (.string x)
    · exact (decide_eq_false (fun hm => by rw [(h2 x).2 hm] at e; cases e)).symm
    · exact (decide_eq_true ((h2 x).1 e)).symm
  have HB : Hid (Maps.has D (.string x) = decide (x ∈ F)) := hb
  clear hb h2
  go_enter Tryz.func149, Tryz.ntmps149
  go_wp2_with (first
    | (at_lookup; refine wpList_lookup_own_ok_int _ rfl _ _ 179 rfl 9 3 .i64 law_string Tryz.underlying179 Tryz.underlying3 (zero_int _) b _ _ rfl h1 _ _ rfl hkey ?_; intro c hat hwc)
    | go_in)
  go_ret
  exact ⟨by rw [← HB.out]; rfl, rfl⟩

end Go.Proofs.YtnnkmkhamipfiaaGreatDoor

namespace Go.Proofs.YtnnkmkhamipfiaaGreatDoor
open Go.RowKit Go.Sort Go.Maps Go.Deep

theorem erase_text (f : List UInt8) (i : Nat) : (⟨f.toArray⟩ : ByteArray).extract 0 i ++ (⟨f.toArray⟩ : ByteArray).extract (i + 1) f.length = ⟨(f.eraseIdx i).toArray⟩ := by
  apply ByteArray.ext
  simp [List.eraseIdx_eq_take_drop_succ]
  exact List.take_of_length_le (by simp)

set_option maxRecDepth 100000 in
set_option maxHeartbeats 1000000 in
theorem parts_ (f : List UInt8) (w : World) (h0 : 0 < f.length) (hf : f.length ≤ 1000) :
    Calls Tryz.prog 111 #[encStr f] w fun e w' => ∃ v, e = .returned v ∧ StrsIn (fun b => w.heap.size ≤ b) w' v (partsOf f) ∧ Below w.heap.size w w' := by
  obtain ⟨s, hs⟩ : ∃ s : ByteArray, (⟨f.toArray⟩ : ByteArray) = s := ⟨_, rfl⟩
  have hsz : s.size = f.length := by rw [← hs]; rfl
  have he : encStr f = .string s := by rw [← hs, encStr]
  rw [he]
  have HS : Hid ((⟨f.toArray⟩ : ByteArray) = s) := hs
  obtain ⟨n, hn⟩ : ∃ n, f.length = n := ⟨_, rfl⟩
  rw [hn] at hsz hf h0
  have HN : Hid (f.length = n) := hn
  clear hs he hn
  by_cases h1 : n = 1
  · subst h1
    go_enter Tryz.func111, Tryz.ntmps111
    go_wp2
    go_ret
    refine ⟨_, rfl, ?_, Below.refl _ _⟩
    unfold partsOf
    rw [if_pos HN.out]
    exact SliceIn.nil _ _
  · have hmk := run_make_row' (P := Tryz.prog) 183 9 (.string ⟨#[]⟩) 16 Tryz.underlying183 Tryz.info9 rfl .i64 .i64 n (by omega) (by omega)
    go_enter Tryz.func111, Tryz.ntmps111
    go_wp2
    go_loopw [13] (fun p wr => ∃ i : Nat, i ≤ n ∧ p = .int .i64 i ∧ wr.rowIs w.heap.size 9 n (fun j => if j < i then encStr (f.eraseIdx j) else encStr []) ∧ Below w.heap.size w wr)
      (fun p _ => n - (intOf p).toNat)
    case atStart => exact ⟨0, by omega, rfl, (World.rowIs_made _ _ _ _).congr (fun j _ => by simp [encStr]), (Below.refl _ _).alloc (Nat.le_refl _) _⟩
    case round =>
      obtain ⟨i, hi, rfl, hrow, hB⟩ := hrel
      by_cases hlt : i < n
      · have hc := hrow.cell hlt
        have hz := hrow.frozen i
        have HR : Hid (wr.rowIs w.heap.size 9 n (fun j => if j < i then encStr (f.eraseIdx j) else encStr [])) := hrow
        simp only [Nat.lt_irrefl, if_false] at hc
        clear hrow
        have hadd : ∀ W, (Op.stringOp .add (s.extract 0 i) (s.extract (i + 1) n)).run Tryz.prog W = .ok (.string (s.extract 0 i ++ s.extract (i + 1) n)) W := fun W => run_string_add_sum W _ _ (by simp; omega)
        go_wp2_with fail
        go_region
        go_wp2
        go_roundw
        case rel =>
          refine ⟨i + 1, by omega, by go_num, ?_, (hB.setCell (p := ⟨w.heap.size, i, none⟩) (Nat.le_refl _) _).drew⟩
          refine ((HR.out.set i _).drew).congr (fun j _ => ?_)
          by_cases e : j = i
          · subst e
            rw [if_pos rfl, if_pos (Nat.lt_succ_self _)]
            have := erase_text f j
            rw [HN.out, HS.out] at this
            rw [this, encStr]
          · rw [if_neg e]
            by_cases e2 : j < i
            · rw [if_pos e2, if_pos (by omega)]
            · rw [if_neg e2, if_neg (by omega)]
        case measure => simp [intOf]; omega
      · obtain rfl : i = n := by omega
        have HR : Hid (wr.rowIs w.heap.size 9 i (fun j => if j < i then encStr (f.eraseIdx j) else encStr [])) := hrow
        clear hrow
        go_wp2
        go_ret
        refine ⟨_, rfl, ?_, hB⟩
        have hp : partsOf f = (List.range f.length).map f.eraseIdx := by unfold partsOf; rw [if_neg (by rw [HN.out]; exact h1)]
        have hl : ((partsOf f).map encStr).length = i := by rw [hp]; simp [HN.out]
        refine ⟨some ⟨w.heap.size, 0, none⟩, i, by rw [hl]; rfl, ⟨by omega, fun h => by cases h⟩, fun _ => ⟨w.heap.size, 0, rfl, Nat.le_refl _, fun k u hu => ?_⟩⟩
        have hk : k < i := by have := (List.getElem?_eq_some_iff.1 hu).1; omega
        have hc := HR.out.cell hk
        rw [if_pos hk] at hc
        rw [Nat.zero_add, hc, ← hu, hp]
        simp [HN.out, hk]

end Go.Proofs.YtnnkmkhamipfiaaGreatDoor
