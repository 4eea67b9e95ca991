/- What pastBlanks and readNumber answer; nothing is written. -/
import Derived.Test.YtklagnmkfbjagaaGreatDoorTextMath
import Derived.Test.YtklagnmkfbjagaaGreatDoorBase
namespace Go.Proofs.YtklagnmkfbjagaaGreatDoor
open Go.RowKit Go.Sort

/-- The bytes of a text. -/
theorem byte_is {b : List UInt8} {s : ByteArray} (h : (⟨b.toArray⟩ : ByteArray) = s) {i : Nat} (hi : i < s.size) : b.drop i = (s[i]'hi) :: b.drop (i + 1) := by
  subst h
  have hb : i < b.length := by simpa [ByteArray.size] using hi
  rw [List.drop_eq_getElem_cons hb]
  rfl
theorem size_is {b : List UInt8} {s : ByteArray} (h : (⟨b.toArray⟩ : ByteArray) = s) : s.size = b.length := by subst h; simp [ByteArray.size]

set_option maxRecDepth 100000 in
theorem past_ (b : List UInt8) (s : ByteArray) (hs : (⟨b.toArray⟩ : ByteArray) = s) (hl : b.length ≤ 100000) (i : Nat) (hi : i ≤ b.length) (w : World) :
    Calls Tryz.prog 24 #[.string s, .int .i64 i] w fun e w' => e = .returned (.int .i64 ((i + blanks (b.drop i) : Nat) : Int)) ∧ w' = w := by
  have hsz := size_is hs
  have HS : Hid ((⟨b.toArray⟩ : ByteArray) = s) := hs
  clear hs
  go_enter Tryz.func24, Tryz.ntmps24
  go_wp2
  go_loopw [1] (fun p W => ∃ k : Nat, k ≤ b.length ∧ p = .int .i64 k ∧ Hid (k + blanks (b.drop k) = i + blanks (b.drop i)) ∧ W = w) (fun p _ => b.length - (intOf p).toNat)
  case atStart => exact ⟨i, hi, rfl, rfl, rfl⟩
  case round =>
    obtain ⟨k, hk, rfl, HK, rfl⟩ := hrel
    by_cases hlt : k < b.length
    · have hks : k < s.size := by omega
      have hd := byte_is HS.out hks
      obtain ⟨c, hc⟩ : ∃ c, s[k]'hks = c := ⟨_, rfl⟩
      rw [hc] at hd
      have HD : Hid (b.drop k = c :: b.drop (k + 1)) := hd
      have hc8 : c.toNat < 256 := c.toNat_lt
      have hn0 : (0 : Int) ≤ (k : Int) := by omega
      clear hd
      by_cases h32 : c = 32
      · have hcb : ((c.toNat : Int) == 32) = true := by rw [h32]; rfl
        have HK2 : Hid (k + 1 + blanks (b.drop (k + 1)) = i + blanks (b.drop i)) := by
          show _ = _
          rw [← HK.out, HD.out, blanks, if_pos h32]; omega
        clear h32
        go_wp2
        go_roundw
        case rel => exact ⟨k + 1, by omega, by go_num, HK2.out, (by first | trivial | rfl)⟩
        case measure => simp [intOf]; omega
      · have hcb : ((c.toNat : Int) == 32) = false := beq_false_of_ne (fun e => h32 (UInt8.toNat_inj.1 (by have : (32 : UInt8).toNat = 32 := rfl; omega)))
        have HK2 : Hid (k = i + blanks (b.drop i)) := by
          show _ = _
          rw [← HK.out, HD.out, blanks, if_neg h32]; omega
        clear h32
        go_wp2
        go_ret
        exact ⟨by rw [← HK2.out]; rfl, rfl⟩
    · obtain rfl : k = b.length := by omega
      have HK2 : Hid (b.length = i + blanks (b.drop i)) := by
        show _ = _
        rw [← HK.out, List.drop_length]; rfl
      go_wp2
      go_ret
      exact ⟨by rw [← HK2.out]; rfl, rfl⟩

/-- What has been read of a number. -/
def Pre (u : List UInt8) (k : Nat) (v : Int) : Prop := (k = 0 ∧ v = 0) ∨ (k = 1 ∧ ∃ c t, u = c :: t ∧ isD c = true ∧ v = dv c) ∨ (k = 2 ∧ num u = (v, 2))
theorem Pre.small {u : List UInt8} {k : Nat} {v : Int} (h : Pre u k v) : 0 ≤ v ∧ v ≤ 99 ∧ k ≤ 2 := by
  rcases h with ⟨rfl, rfl⟩ | ⟨rfl, c, t, _, hc, rfl⟩ | ⟨rfl, e⟩
  · omega
  · have := isD_iff.1 hc
    unfold dv; omega
  · have := num_small u
    rw [e] at this; simp only [] at this; omega
theorem pre_end {u : List UInt8} {k : Nat} {v : Int} (h : Pre u k v) (he : u.drop k = [] ∨ k = 2 ∨ ∃ c t, u.drop k = c :: t ∧ isD c = false) : num u = (v, k) := by
  rcases h with ⟨rfl, rfl⟩ | ⟨rfl, c, t, rfl, hc, rfl⟩ | ⟨rfl, e⟩
  · rcases he with e | e | ⟨c, t, e, hc⟩
    · rw [List.drop_zero] at e; rw [e]; rfl
    · omega
    · rw [List.drop_zero] at e; rw [e]; simp [num, hc]
  · rcases he with e | e | ⟨d, t', e, hd⟩
    · simp only [List.drop_succ_cons, List.drop_zero] at e; rw [e]; simp [num, hc]
    · omega
    · simp only [List.drop_succ_cons, List.drop_zero] at e; rw [e]; simp [num, hc, hd]
  · exact e
theorem pre_next {u : List UInt8} {k : Nat} {v : Int} (h : Pre u k v) (hk : k < 2) {c : UInt8} {t : List UInt8} (e : u.drop k = c :: t) (hc : isD c = true) : Pre u (k + 1) (10 * v + dv c) := by
  rcases h with ⟨rfl, rfl⟩ | ⟨rfl, d, t', rfl, hd, rfl⟩ | ⟨rfl, _⟩
  · rw [List.drop_zero] at e
    exact .inr (.inl ⟨rfl, c, t, e, hc, by omega⟩)
  · simp only [List.drop_succ_cons, List.drop_zero] at e
    exact .inr (.inr ⟨rfl, by rw [e]; simp [num, hc, hd]⟩)
  · omega

theorem num_ret {u : List UInt8} {v : Int} {i k m : Nat} (h : num u = (v, k)) (hm : i + k = m) : Ending.returned (.tuple #[.int .i64 v, .int .i64 (m : Int)]) = .returned (.tuple #[.int .i64 (num u).1, .int .i64 ((i + (num u).2 : Nat) : Int)]) := by
  rw [h, ← hm]

set_option maxRecDepth 100000 in
theorem number_ (b : List UInt8) (s : ByteArray) (hs : (⟨b.toArray⟩ : ByteArray) = s) (hl : b.length ≤ 100000) (i : Nat) (hi : i ≤ b.length) (w : World) :
    Calls Tryz.prog 39 #[.string s, .int .i64 i] w fun e w' => e = .returned (.tuple #[.int .i64 (num (b.drop i)).1, .int .i64 ((i + (num (b.drop i)).2 : Nat) : Int)]) ∧ w' = w := by
  have hsz := size_is hs
  have HS : Hid ((⟨b.toArray⟩ : ByteArray) = s) := hs
  clear hs
  go_enter Tryz.func39, Tryz.ntmps39
  go_wp2
  go_loopw [4, 5] (fun q p W => ∃ (k : Nat) (v : Int), i + k ≤ b.length ∧ q = .int .i64 v ∧ p = .int .i64 ((i + k : Nat) : Int) ∧ Hid (Pre (b.drop i) k v) ∧ W = w) (fun _ p _ => b.length - (intOf p).toNat)
  case atStart => exact ⟨0, 0, hi, rfl, by simp, .inl ⟨rfl, rfl⟩, rfl⟩
  case round =>
    obtain ⟨k, v, hk, rfl, rfl, HP, rfl⟩ := hrel
    obtain ⟨hv0, hv1, hk2⟩ := HP.out.small
    have hdd : (b.drop i).drop k = b.drop (i + k) := List.drop_drop
    have HDD : Hid ((b.drop i).drop k = b.drop (i + k)) := hdd
    obtain ⟨m, hm⟩ : ∃ m, i + k = m := ⟨_, rfl⟩
    have HM : Hid (i + k = m) := hm
    rw [hm] at hk
    rw [hm]
    clear hdd
    by_cases hlt : m < b.length
    · by_cases h2 : k < 2
      · have hks : m < s.size := by omega
        have hd := byte_is HS.out hks
        obtain ⟨c, hc⟩ : ∃ c, s[m]'hks = c := ⟨_, rfl⟩
        rw [hc] at hd
        have HD : Hid ((b.drop i).drop k = c :: b.drop (m + 1)) := by show _ = _; rw [HDD.out, HM.out]; exact hd
        have hc8 : c.toNat < 256 := c.toNat_lt
        have hn0 : (0 : Int) ≤ (m : Int) := by omega
        have hm2 : m < i + 2 := by omega
        clear hd
        by_cases h48 : 48 ≤ c.toNat
        · by_cases h57 : c.toNat ≤ 57
          · have HP2 : Hid (Pre (b.drop i) (k + 1) (10 * v + dv c)) := pre_next HP.out h2 HD.out (isD_iff.2 ⟨h48, h57⟩)
            clear hm
            go_wp2
            go_roundw
            case rel => exact ⟨k + 1, 10 * v + dv c, by have := HM.out; omega, by unfold dv; go_num, by have := HM.out; go_num, HP2.out, (by first | trivial | rfl)⟩
            case measure => simp [intOf]; omega
          · have hcb : decide ((c.toNat : Int) ≤ 57) = false := decide_eq_false (by omega)
            have HP2 : Hid (num (b.drop i) = (v, k)) := pre_end HP.out (.inr (.inr ⟨c, _, HD.out, by cases h : isD c; rfl; exact absurd (isD_iff.1 h).2 h57⟩))
            clear hm
            go_wp2
            go_ret2
            exact ⟨num_ret HP2.out HM.out, rfl⟩
        · have hcb : decide (48 ≤ (c.toNat : Int)) = false := decide_eq_false (by omega)
          have HP2 : Hid (num (b.drop i) = (v, k)) := pre_end HP.out (.inr (.inr ⟨c, _, HD.out, by cases h : isD c; rfl; exact absurd (isD_iff.1 h).1 h48⟩))
          clear hm
          go_wp2
          go_ret2
          exact ⟨num_ret HP2.out HM.out, rfl⟩
      · obtain rfl : k = 2 := by omega
        have HP2 : Hid (num (b.drop i) = (v, 2)) := pre_end HP.out (.inr (.inl rfl))
        have hm2 : ¬ m < i + 2 := by omega
        have hn0 : (0 : Int) ≤ (m : Int) := by omega
        clear hm
        go_wp2
        go_ret2
        exact ⟨num_ret HP2.out HM.out, rfl⟩
    · have HP2 : Hid (num (b.drop i) = (v, k)) := pre_end HP.out (.inl (by rw [HDD.out, HM.out]; exact List.drop_of_length_le (by omega)))
      clear hm
      go_wp2
      go_ret2
      exact ⟨num_ret HP2.out HM.out, rfl⟩

end Go.Proofs.YtklagnmkfbjagaaGreatDoor
