/- What readSet answers: the numbers that stand ahead, in memory of its own, and the place behind them. -/
import Derived.Test.YtklagnmkfbjagaaGreatDoorReadNum
import Derived.Test.YtklagnmkfbjagaaGreatDoorMake
namespace Go.Proofs.YtklagnmkfbjagaaGreatDoor
open Go.RowKit Go.Sort Go.Maps Go.Deep

theorem rset_stop {n : Nat} {S : List Int} {u : List UInt8} (hn : u.length < n) (h : (num u).2 = 0) : rset n S u = (S, 0) := by
  cases n with
  | zero => omega
  | succ n => simp only [rset, if_pos h]
theorem rset_last {n : Nat} {S : List Int} {u : List UInt8} (hn : u.length < n) (h : (num u).2 ≠ 0) (hb : blanks (u.drop (num u).2) = 0) : rset n S u = (S ++ [(num u).1], (num u).2) := by
  cases n with
  | zero => omega
  | succ n => simp only [rset, if_neg h, if_pos hb]
theorem rset_more {n : Nat} {S : List Int} {u : List UInt8} (h : (num u).2 ≠ 0) (hb : blanks (u.drop (num u).2) ≠ 0) : rset (n + 1) S u = ((rset n (S ++ [(num u).1]) (u.drop ((num u).2 + blanks (u.drop (num u).2)))).1, (num u).2 + blanks (u.drop (num u).2) + (rset n (S ++ [(num u).1]) (u.drop ((num u).2 + blanks (u.drop (num u).2)))).2) := by
  simp only [rset, if_neg h, if_neg hb]

/-- What is to be told of the set from a place on. -/
def SetFrom (b : List UInt8) (R : List Int) (e : Nat) (n : Nat) (S : List Int) (k : Nat) : Prop := (rset n S (b.drop k)).1 = R ∧ k + (rset n S (b.drop k)).2 = e

set_option maxRecDepth 100000 in
set_option maxHeartbeats 1000000 in
theorem readset_ (b : List UInt8) (s : ByteArray) (hs : (⟨b.toArray⟩ : ByteArray) = s) (hl : b.length ≤ 100000) (i : Nat) (hi : i ≤ b.length) (w : World) :
    Calls Tryz.prog 25 #[.string s, .int .i64 i] w fun e w' => ∃ v, e = .returned (.tuple #[v, .int .i64 ((i + blanks (b.drop i) + (rset ((b.drop i).length + 1) [] ((b.drop i).drop (blanks (b.drop i)))).2 : Nat) : Int)]) ∧ IntsIn (fun bl => w.heap.size ≤ bl) w' v (rset ((b.drop i).length + 1) [] ((b.drop i).drop (blanks (b.drop i)))).1 ∧ Below w.heap.size w w' := by
  obtain ⟨j0, hj0, hy0, hy1, hy2⟩ := info_parts Tryz.info3
  have HS : Hid ((⟨b.toArray⟩ : ByteArray) = s) := hs
  have hpa := past_ b s hs hl i hi w
  have hbl := blanks_le (b.drop i)
  rw [List.length_drop] at hbl
  obtain ⟨R, hR⟩ : ∃ R, (rset ((b.drop i).length + 1) [] ((b.drop i).drop (blanks (b.drop i)))).1 = R := ⟨_, rfl⟩
  obtain ⟨E, hE⟩ : ∃ E, i + blanks (b.drop i) + (rset ((b.drop i).length + 1) [] ((b.drop i).drop (blanks (b.drop i)))).2 = E := ⟨_, rfl⟩
  obtain ⟨k0, hk0⟩ : ∃ k0, i + blanks (b.drop i) = k0 := ⟨_, rfl⟩
  have hk0l : k0 ≤ b.length := by omega
  have HST : Hid (SetFrom b R E ((b.drop i).length + 1) [] k0) := by
    refine ⟨?_, ?_⟩
    · rw [← hk0, ← List.drop_drop]; exact hR
    · rw [← hk0, ← List.drop_drop]; exact hE
  have HN : Hid (b.length - k0 < (b.drop i).length + 1) := by show _ < _; rw [List.length_drop]; omega
  obtain ⟨n0, hn0⟩ : ∃ n0, (b.drop i).length + 1 = n0 := ⟨_, rfl⟩
  rw [hR, hE]
  rw [hn0] at HST HN
  rw [hk0] at hpa
  clear hR hE hk0 hn0 hs hbl
  go_enter Tryz.func25, Tryz.ntmps25
  go_wp2_with fail
  refine hpa.mono ?_
  clear hpa
  rintro e w2 ⟨rfl, rfl⟩
  go_wp2
  go_loopw [4, 1] (fun q p W => ∃ (n k : Nat) (S : List Int), k ≤ b.length ∧ S.length ≤ k ∧ p = .int .i64 k ∧ W.ownsRow w2.heap.size 3 1 q S.length (S.map (Value.int .i64)) ∧ Hid (SetFrom b R E n S k ∧ b.length - k < n) ∧ Below w2.heap.size w2 W) (fun _ p _ => b.length - (intOf p).toNat)
  case atStart => exact ⟨n0, k0, [], hk0l, Nat.zero_le _, rfl, World.ownsRow_nil _ _ _ _, ⟨HST.out, HN.out⟩, Below.refl _ _⟩
  case round =>
    obtain ⟨n, k, S, hk, hSk, rfl, hown, HF, hB⟩ := hrel
    have hnu := number_ b s HS.out hl k hk wr
    have hnl := num_le (b.drop k)
    rw [List.length_drop] at hnl
    have hns := num_small (b.drop k)
    obtain ⟨x, hx⟩ : ∃ x, (num (b.drop k)).1 = x := ⟨_, rfl⟩
    obtain ⟨d, hd⟩ : ∃ d, (num (b.drop k)).2 = d := ⟨_, rfl⟩
    have HX : Hid ((num (b.drop k)).1 = x ∧ (num (b.drop k)).2 = d) := ⟨hx, hd⟩
    rw [hd] at hnl
    rw [hx] at hns
    rw [hx, hd] at hnu
    obtain ⟨hn1, hn2⟩ := hnl
    obtain ⟨hx1, hx2⟩ := hns
    have hbs := hB.size
    clear hx hd
    by_cases hd0 : d = 0
    · subst hd0
      have HFE : Hid (S = R ∧ k = E) := by
        have h1 := rset_stop (n := n) (S := S) (u := b.drop k) (by rw [List.length_drop]; exact HF.out.2) HX.out.2
        have h2 := HF.out.1
        unfold SetFrom at h2
        rw [h1] at h2
        exact h2
      clear HF
      go_wp2_with fail
      refine hnu.mono ?_
      clear hnu
      rintro e w3 ⟨rfl, rfl⟩
      have HI : Hid (IntsIn (fun bl => w2.heap.size ≤ bl) w3 u4 S) := slice_of_owns hown (fun bl h _ => h)
      clear hown
      go_wp2
      go_ret2
      exact ⟨_, by rw [← HFE.out.2]; rfl, by rw [← HFE.out.1]; exact HI.out, hB⟩
    · have hbl := blanks_le (b.drop (k + d))
      rw [List.length_drop] at hbl
      obtain ⟨m, hm⟩ : ∃ m, blanks (b.drop (k + d)) = m := ⟨_, rfl⟩
      rw [hm] at hbl
      have HM : Hid (blanks (b.drop (k + d)) = m ∧ blanks ((b.drop k).drop d) = m) := ⟨hm, by rw [List.drop_drop]; exact hm⟩
      have hdb : (((k + d : Nat) : Int) == (k : Int)) = false := beq_false_of_ne (by omega)
      obtain ⟨q, hq⟩ : ∃ q, k + d = q := ⟨_, rfl⟩
      rw [hq] at hdb hbl hnu
      have HQ : Hid (k + d = q) := hq
      have hqb : q ≤ b.length := by omega
      have hkq : k < q := by omega
      have hSl : S.length ≤ 100000 := by omega
      clear hm
      go_wp2_with fail
      refine hnu.mono ?_
      clear hnu
      rintro e w3 ⟨rfl, rfl⟩
      go_wp2_with (first
        | (at_builtin; refine wpList_append_slice rfl (.tmp 22) (.tmp 24) 45 rfl w2.heap.size 3 j0 (.int .i64 0) 8 Tryz.underlying45 hj0 hy0 hy1 hy2 rfl _ _ _ rfl (hown.alloc _) _ [.int .i64 x] rfl (slice_one _ _ _) (by simp [Value.oneCell']) (by simp; omega) (by unfold maxLen; simp; omega) (by simp; omega) ?_; intro v4 w4 hown4 hg4 hl4)
        | fail)
      have hB4 : Below w2.heap.size w2 w4 := (hB.alloc hbs _).grown hg4 (by simp; omega) (fun j hj => (hown.lt j hj).1)
      have hown5 : w4.ownsRow w2.heap.size 3 1 v4 (S ++ [x]).length ((S ++ [x]).map (Value.int .i64)) := by
        simpa using hown4
      have hpa := past_ b s HS.out hl q hqb w4
      rw [← HQ.out, HM.out.1, HQ.out] at hpa
      clear hown hown4 hg4 hl4 hB
      go_wp2_with fail
      refine hpa.mono ?_
      clear hpa
      rintro e w5 ⟨rfl, rfl⟩
      by_cases hm0 : m = 0
      · subst hm0
        have HFE : Hid (S ++ [x] = R ∧ q = E) := by
          have h1 := rset_last (n := n) (S := S) (u := b.drop k) (by rw [List.length_drop]; exact HF.out.2) (by rw [HX.out.2]; exact hd0) (by rw [HX.out.2]; exact HM.out.2)
          have h2 := HF.out.1
          unfold SetFrom at h2
          rw [h1, HX.out.1, HX.out.2, HQ.out] at h2
          exact h2
        have HI : Hid (IntsIn (fun bl => w2.heap.size ≤ bl) w5 v4 (S ++ [x])) := slice_of_owns hown5 (fun bl h _ => h)
        clear HF hown5 hq
        go_wp2
        go_ret2
        exact ⟨_, by rw [← HFE.out.2]; rfl, by rw [← HFE.out.1]; exact HI.out, hB4⟩
      · have hmb : (((q + m : Nat) : Int) == (q : Int)) = false := beq_false_of_ne (by omega)
        have HF2 : Hid (∃ n', SetFrom b R E n' (S ++ [x]) (q + m) ∧ b.length - (q + m) < n') := by
          obtain ⟨h1, h2⟩ := HF.out
          cases n with
          | zero => omega
          | succ n =>
            refine ⟨n, ?_, by omega⟩
            have h3 := rset_more (n := n) (S := S) (u := b.drop k) (by rw [HX.out.2]; exact hd0) (by rw [HX.out.2, HM.out.2]; exact hm0)
            rw [HX.out.1, HX.out.2, HM.out.2, List.drop_drop, ← Nat.add_assoc, HQ.out] at h3
            unfold SetFrom at h1 ⊢
            rw [h3] at h1
            refine ⟨h1.1, ?_⟩
            have := h1.2
            have hq' := HQ.out
            simp only [] at this
            omega
        obtain ⟨z, hz⟩ : ∃ z, q + m = z := ⟨_, rfl⟩
        have HZ : Hid (q + m = z) := hz
        rw [hz] at hmb HF2
        rw [hz]
        have hzl : z ≤ b.length := by omega
        have hqz : q < z := by omega
        clear HF hq hz
        go_wp2
        go_roundw
        case rel =>
          obtain ⟨n', h1, h2⟩ := HF2.out
          exact ⟨n', z, S ++ [x], hzl, by simp; omega, by go_num, hown5, ⟨h1, h2⟩, hB4⟩
        case measure => simp [intOf]; omega

end Go.Proofs.YtklagnmkfbjagaaGreatDoor
