/- What the reference's ImageError answers; nothing is written. -/
import Derived.Test.YtbmojlnkjeapkaaGreatDoorCubeBad
import Derived.Deep.Draws
namespace Go.Proofs.YtbmojlnkjeapkaaGreatDoor
open Go.RowKit Go.Sort

open Classical in
/-- ImageError's number. -/
noncomputable def errN (m : List (List UInt8)) : Int := if LargeI m then 2 else if UnevenI m then 3 else if OtherI m then 1 else 0

/-- The same world but for draws. -/
def Drawn (w W : World) : Prop := ∃ n, W = w.drewN n
theorem Drawn.refl (w : World) : Drawn w w := ⟨0, rfl⟩
theorem Drawn.drew {w W : World} (h : Drawn w W) : Drawn w W.drew := by obtain ⟨n, rfl⟩ := h; exact ⟨n + 1, rfl⟩
theorem Drawn.trans {w W V : World} (h : Drawn w W) (k : Drawn W V) : Drawn w V := by
  obtain ⟨n, rfl⟩ := h
  obtain ⟨m, rfl⟩ := k
  exact ⟨n + m, by rw [World.drewN_drewN]⟩
theorem Drawn.cell {w W : World} (h : Drawn w W) (p : Addr) : W.cell? p = w.cell? p := by obtain ⟨n, rfl⟩ := h; rfl
theorem Drawn.below {w W : World} (h : Drawn w W) : Below w.heap.size w W := by obtain ⟨n, rfl⟩ := h; exact ⟨rfl, rfl, rfl, Nat.le_refl _, fun _ _ => rfl⟩

theorem byte_ne {q : UInt8} {n : Nat} {c : UInt8} (hn : c.toNat = n) : ((q.toNat : Int) != (n : Int)) = decide (q ≠ c) := by
  by_cases e : q = c
  · subst e; subst hn; simp
  · rw [decide_eq_true e]
    exact bne_iff_ne.2 fun h => e (UInt8.toNat_inj.1 (by omega))

/-- What the three flags tell of the first rows. -/
def Flags (m : List (List UInt8)) (k : Nat) (L U O : Bool) : Prop := (L = true ↔ 24 < m.length ∨ LongTo m k) ∧ (U = true ↔ UnevenTo m k) ∧ (O = true ↔ OtherTo m k)

theorem flags_start {m : List (List UInt8)} {L : Bool} (h : L = decide ((24 : Int) < (m.length : Int))) : Flags m 0 L false false := by
  subst h
  refine ⟨?_, ?_, ?_⟩
  · simp [LongTo]; omega
  · simp [UnevenTo]
  · simp [OtherTo]

theorem flags_next {m : List (List UInt8)} {k : Nat} {L U O L' U' O' : Bool} (h : Flags m k L U O) (hk : k < m.length) {n w : Nat} (hn : n = (m[k]?.getD []).length) (hw : w = wide m)
    (hL : L' = (L || decide ((24 : Int) < (n : Int)))) (hU : U' = (U || ((n : Int) != (w : Int)))) (hO : O' = true ↔ O = true ∨ OtherIn (m[k]?.getD []) n) : Flags m (k + 1) L' U' O' := by
  rw [List.getElem?_eq_getElem hk, Option.getD_some] at hn hO
  refine ⟨?_, ?_, ?_⟩
  · rw [hL, Bool.or_eq_true, h.1]
    unfold LongTo
    rw [ex_take hk, or_assoc, decide_eq_true_eq]
    have : ((24 : Int) < (n : Int)) ↔ 24 < m[k].length := by omega
    rw [this]
  · rw [hU, Bool.or_eq_true, h.2.1]
    unfold UnevenTo
    rw [ex_take hk, bne_iff_ne]
    have : ((n : Int) ≠ (w : Int)) ↔ m[k].length ≠ wide m := by omega
    rw [this]
  · rw [hO, h.2.2]
    unfold OtherTo OtherIn
    rw [ex_take hk, hn, List.take_length]

theorem flags_end {m : List (List UInt8)} {L U O : Bool} (h : Flags m m.length L U O) : (L = true ↔ LargeI m) ∧ (U = true ↔ UnevenI m) ∧ (O = true ↔ OtherI m) := by
  unfold Flags LongTo UnevenTo OtherTo at h
  rw [List.take_length] at h
  exact h

open Classical in
theorem errN_of {m : List (List UInt8)} {L U O : Bool} (h : Flags m m.length L U O) : errN m = if L = true then 2 else if U = true then 3 else if O = true then 1 else 0 := by
  obtain ⟨h1, h2, h3⟩ := flags_end h
  unfold errN
  simp only [h1, h2, h3]

theorem other_next {r : List UInt8} {j : Nat} {s : ByteArray} (hs : (⟨r.toArray⟩ : ByteArray) = s) (hj : j < s.size) : OtherIn r (j + 1) ↔ OtherIn r j ∨ (s[j]'hj ≠ 35 ∧ s[j]'hj ≠ 46) := by
  have hb : j < r.length := by rw [← text_size hs]; exact hj
  unfold OtherIn
  rw [ex_take hb, text_byte hs hj, List.getElem?_eq_getElem hb, Option.getD_some]

theorem other_step {A B C : Prop} {O' O'' c : Bool} (h : O' = true ↔ A ∨ B) (hc : c = true ↔ C) (ho : O'' = (O' || c)) : O'' = true ↔ A ∨ (B ∨ C) := by
  rw [ho, Bool.or_eq_true, h, hc, or_assoc]

set_option maxRecDepth 100000 in
set_option maxHeartbeats 4000000 in
theorem image_error (vm : Value) (m : List (List UInt8)) (w : World) (hm : Strs w vm m) (hl : m.length ≤ 1000) (hr : ∀ r ∈ m, r.length ≤ maxLen) :
    Calls Tryz.prog 6 #[vm] w fun e w' => e = .returned (.int .i64 (errN m)) ∧ Drawn w w' := by
  obtain ⟨a, ca, rfl, -, ha⟩ := hm.open_
  clear hm
  have HR : Hid (∀ r ∈ m, r.length ≤ maxLen) := hr
  clear hr
  go_enter Tryz.func6, Tryz.ntmps6
  go_wp2
  go_loopw [3, 4, 5, 6] (fun p q r i W => ∃ (k : Nat) (L U O : Bool), k ≤ m.length ∧ i = .int .i64 k ∧ p = .bool L ∧ q = .bool U ∧ r = .bool O ∧ Hid (Flags m k L U O) ∧ Hid (Drawn w W)) (fun _ _ _ i _ => m.length - (intOf i).toNat)
  case atStart => exact ⟨0, _, false, false, by omega, rfl, rfl, rfl, rfl, flags_start rfl, Drawn.refl _⟩
  case round =>
    obtain ⟨k, L, U, O, hk, rfl, rfl, rfl, rfl, HF, HD⟩ := hrel
    by_cases hlt : k < m.length
    · obtain ⟨b, o, rfl, -, hb, c⟩ := ha (by omega)
      have ck := (HD.out.cell ⟨b, o + k, none⟩).trans (c k hlt)
      have c0 := (HD.out.cell ⟨b, o + 0, none⟩).trans (c 0 (by omega))
      obtain ⟨s, hs⟩ : ∃ s, (⟨(m[k]?.getD []).toArray⟩ : ByteArray) = s := ⟨_, rfl⟩
      obtain ⟨s0, hs0⟩ : ∃ s0, (⟨(m[0]?.getD []).toArray⟩ : ByteArray) = s0 := ⟨_, rfl⟩
      rw [show encStr (m[k]?.getD []) = .string ⟨(m[k]?.getD []).toArray⟩ from rfl, hs] at ck
      rw [show encStr (m[0]?.getD []) = .string ⟨(m[0]?.getD []).toArray⟩ from rfl, hs0, Nat.add_zero] at c0
      have HS : Hid ((⟨(m[k]?.getD []).toArray⟩ : ByteArray) = s) := hs
      have HS0 : Hid ((⟨(m[0]?.getD []).toArray⟩ : ByteArray) = s0) := hs0
      have hsl : s.size ≤ 9223372036854775807 := by
        rw [text_size hs, List.getElem?_eq_getElem hlt, Option.getD_some]
        exact HR.out _ (List.getElem_mem hlt)
      have HN : Hid (s.size = (m[k]?.getD []).length ∧ s0.size = wide m) := ⟨text_size hs, text_size hs0⟩
      clear ha c hs hs0
      cases L <;> cases U
      all_goals
        go_wp2
        go_region
        go_wp2
        go_loopw [5, 7] (fun r i W => ∃ (j : Nat) (O' : Bool), j ≤ s.size ∧ i = .int .i64 j ∧ r = .bool O' ∧ Hid (O' = true ↔ O = true ∨ OtherIn (m[k]?.getD []) j) ∧ Hid (Drawn wr W)) (fun _ i _ => s.size - (intOf i).toNat)
        case atStart => exact ⟨0, O, by omega, rfl, rfl, by show _ ↔ _; simp [OtherIn], (Drawn.refl _).drew⟩
        case round =>
          obtain ⟨j, O', hj, rfl, rfl, HO, HDj⟩ := hrel
          have ckj := (HDj.out.cell ⟨b, o + k, none⟩).trans ck
          by_cases hjl : j < s.size
          · obtain ⟨q, hq⟩ : ∃ q, s[j]'hjl = q := ⟨_, rfl⟩
            have HON := other_next HS.out hjl
            rw [hq] at HON
            have HON : Hid (OtherIn (m[k]?.getD []) (j + 1) ↔ OtherIn (m[k]?.getD []) j ∨ (q ≠ 35 ∧ q ≠ 46)) := HON
            have hq8 : q.toNat < 256 := q.toNat_lt
            have h35 : ((q.toNat : Int) != 35) = decide (q ≠ 35) := byte_ne (n := 35) rfl
            have h46 : ((q.toNat : Int) != 46) = decide (q ≠ 46) := byte_ne (n := 46) rfl
            by_cases e35 : q = 35
            · rw [decide_eq_false (by simpa using e35)] at h35
              cases O' <;>
              (go_wp2
               go_roundw
               case rel => exact ⟨j + 1, _, by omega, by go_num, rfl, by show _ ↔ _; rw [HON.out]; exact other_step HO.out (c := decide (q ≠ 35 ∧ q ≠ 46)) (by simp) (by first | rfl | (rw [h46]; simp [e35]) | simp [e35]), (by first | exact HDj.out | exact HDj.out.drew | exact HDj.out.drew.drew)⟩
               case measure => simp [intOf]; omega)
            · rw [decide_eq_true e35] at h35
              cases O' <;>
              (go_wp2
               go_roundw
               case rel => exact ⟨j + 1, _, by omega, by go_num, rfl, by show _ ↔ _; rw [HON.out]; exact other_step HO.out (c := decide (q ≠ 35 ∧ q ≠ 46)) (by simp) (by first | rfl | (rw [h46]; simp [e35]) | simp [e35]), (by first | exact HDj.out | exact HDj.out.drew | exact HDj.out.drew.drew)⟩
               case measure => simp [intOf]; omega)
          · obtain rfl : j = s.size := by omega
            go_wp2
            go_roundw
            case rel => exact ⟨k + 1, _, _, O', by omega, by go_num, rfl, rfl, rfl, flags_next HF.out hlt HN.out.1 HN.out.2 (by first | rfl | simp) (by first | rfl | simp) HO.out, HD.out.trans HDj.out⟩
            case measure => simp [intOf]; omega
    · obtain rfl : k = m.length := by omega
      have he := errN_of HF.out
      cases L <;> cases U <;> cases O
      all_goals
        simp at he
        have HE : Hid (errN m = _) := he
        clear ha he
        go_wp2
        go_ret
        exact ⟨by rw [HE.out]; rfl, HD.out⟩

end Go.Proofs.YtbmojlnkjeapkaaGreatDoor
