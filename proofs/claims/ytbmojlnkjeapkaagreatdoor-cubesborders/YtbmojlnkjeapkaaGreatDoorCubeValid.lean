/- What Valid answers of an image; nothing is written. -/
import Derived.Test.YtbmojlnkjeapkaaGreatDoorCubeErr
namespace Go.Proofs.YtbmojlnkjeapkaaGreatDoor
open Go.RowKit Go.Sort

/-- What Valid answers. -/
def ValidI (a : Nat → Addr) (m : List (List UInt8)) (w : World) (e : Ending) (w' : World) : Prop :=
  Drawn w w' ∧ ((∃ i, BadImg m i ∧ e = .returned (.iface 172 (.pointer (some (a i))))) ∨ (OkImg m ∧ e = .returned .nilIface))

set_option maxRecDepth 100000 in
set_option maxHeartbeats 4000000 in
theorem valid_image {a : Nat → Addr} {s : Nat → ByteArray} (vm : Value) (m : List (List UInt8)) (w : World) (hE : Errs a s w) (hm : Strs w vm m) (hl : m.length ≤ 1000) :
    Calls Tryz.prog 20 #[vm] w fun e w' => ValidI a m w e w' := by
  obtain ⟨am, ca, rfl, -, ha⟩ := hm.open_
  clear hm
  have g1 : w.cell? ⟨0, 0, none⟩ = some (.iface 172 (.pointer (some (a 1)))) := hE.glob 1 (by decide)
  have g2 : w.cell? ⟨1, 0, none⟩ = some (.iface 172 (.pointer (some (a 2)))) := hE.glob 2 (by decide)
  have g0 : w.cell? ⟨2, 0, none⟩ = some (.iface 172 (.pointer (some (a 0)))) := hE.glob 0 (by decide)
  clear hE
  by_cases h24 : 24 < m.length
  · have HB : Hid (BadImg m 1) := .inl ⟨.inl h24, rfl⟩
    clear ha
    go_enter Tryz.func20, Tryz.ntmps20
    go_wp2
    go_ret
    exact ⟨Drawn.refl _, .inl ⟨1, HB.out, rfl⟩⟩
  · go_enter Tryz.func20, Tryz.ntmps20
    go_wp2
    go_loopw [16] (fun i W => ∃ k : Nat, k ≤ m.length ∧ i = .int .i64 k ∧ Hid (¬ LongTo m k) ∧ W = w) (fun i _ => m.length - (intOf i).toNat)
    case atStart => exact ⟨0, by omega, rfl, by rintro ⟨r, hr, _⟩; simp at hr, rfl⟩
    case round =>
      obtain ⟨k, hk, rfl, HLT, rfl⟩ := hrel
      by_cases hlt : k < m.length
      · obtain ⟨b, o, rfl, -, hb, c⟩ := ha (by omega)
        have ck := c k hlt
        obtain ⟨t, ht⟩ : ∃ t, (⟨(m[k]?.getD []).toArray⟩ : ByteArray) = t := ⟨_, rfl⟩
        rw [show encStr (m[k]?.getD []) = .string ⟨(m[k]?.getD []).toArray⟩ from rfl, ht] at ck
        have hts := text_size ht
        rw [List.getElem?_eq_getElem hlt, Option.getD_some] at hts
        have HTS : Hid (t.size = m[k].length) := hts
        clear ha c ht hts
        by_cases ht24 : (24 : Int) < (t.size : Int)
        · have HB : Hid (BadImg m 1) := .inl ⟨.inr ⟨m[k], List.getElem_mem hlt, by have := HTS.out; omega⟩, rfl⟩
          go_wp2
          go_ret
          exact ⟨Drawn.refl _, .inl ⟨1, HB.out, rfl⟩⟩
        · have h24b : decide ((24 : Int) < (t.size : Int)) = false := decide_eq_false ht24
          have HN : Hid (¬ LongTo m (k + 1)) := by
            intro h
            rcases (ex_take hlt).1 h with h | h
            · exact HLT.out h
            · have := HTS.out; omega
          go_wp2
          go_roundw
          case rel => exact ⟨k + 1, by omega, by go_num, HN.out, (by first | trivial | rfl)⟩
          case measure => simp [intOf]; omega
      · obtain rfl : k = m.length := by omega
        have HNL : Hid (¬ LargeI m) := by
          rintro (h | ⟨r, hr, h⟩)
          · omega
          · exact HLT.out ⟨r, by rw [List.take_length]; exact hr, h⟩
        clear hlt HLT
        go_wp2
        go_loopw [27] (fun i W => ∃ k : Nat, k ≤ m.length ∧ i = .int .i64 k ∧ Hid (¬ UnevenTo m k) ∧ Hid (Drawn wr W)) (fun i _ => m.length - (intOf i).toNat)
        case atStart => exact ⟨0, by omega, rfl, by rintro ⟨r, hr, _⟩; simp at hr, Drawn.refl _⟩
        case round =>
          obtain ⟨k, hk, rfl, HLT, HD⟩ := hrel
          have g2' := (HD.out.cell ⟨1, 0, none⟩).trans g2
          by_cases hlt : k < m.length
          · obtain ⟨b, o, rfl, -, hb, c⟩ := ha (by omega)
            have ck := (HD.out.cell ⟨b, o + k, none⟩).trans (c k hlt)
            have c0 := (HD.out.cell ⟨b, o + 0, none⟩).trans (c 0 (by omega))
            obtain ⟨t, ht⟩ : ∃ t, (⟨(m[k]?.getD []).toArray⟩ : ByteArray) = t := ⟨_, rfl⟩
            obtain ⟨t0, ht0⟩ : ∃ t0, (⟨(m[0]?.getD []).toArray⟩ : ByteArray) = t0 := ⟨_, rfl⟩
            rw [show encStr (m[k]?.getD []) = .string ⟨(m[k]?.getD []).toArray⟩ from rfl, ht] at ck
            rw [show encStr (m[0]?.getD []) = .string ⟨(m[0]?.getD []).toArray⟩ from rfl, ht0, Nat.add_zero] at c0
            have hts := text_size ht
            rw [List.getElem?_eq_getElem hlt, Option.getD_some] at hts
            have HTS : Hid (t.size = m[k].length ∧ t0.size = wide m) := ⟨hts, text_size ht0⟩
            clear ha c ht hts ht0
            by_cases htn : (t.size : Int) = (t0.size : Int)
            · have hbn : ((t.size : Int) != (t0.size : Int)) = false := by rw [htn]; simp
              have HN : Hid (¬ UnevenTo m (k + 1)) := by
                intro h
                rcases (ex_take hlt).1 h with h | h
                · exact HLT.out h
                · have := HTS.out; omega
              clear htn
              go_wp2
              go_roundw
              case rel => exact ⟨k + 1, by omega, by go_num, HN.out, (by first | exact HD.out | exact HD.out.drew)⟩
              case measure => simp [intOf]; omega
            · have hbn : ((t.size : Int) != (t0.size : Int)) = true := bne_iff_ne.2 htn
              have HB : Hid (BadImg m 2) := .inr (.inl ⟨HNL.out, ⟨m[k], List.getElem_mem hlt, by have := HTS.out; omega⟩, rfl⟩)
              clear htn
              go_wp2
              go_ret
              exact ⟨(by first | exact HD.out | exact HD.out.drew), .inl ⟨2, HB.out, rfl⟩⟩
          · obtain rfl : k = m.length := by omega
            have HNU : Hid (¬ UnevenI m) := by
              rintro ⟨r, hr, h⟩
              exact HLT.out ⟨r, by rw [List.take_length]; exact hr, h⟩
            clear hlt HLT g2'
            have g0' := (HD.out.cell ⟨2, 0, none⟩).trans g0
            have ha' : 0 < m.length → ∃ b off, am = some ⟨b, off, none⟩ ∧ ∀ k, k < m.length → wr.cell? ⟨b, off + k, none⟩ = some (encStr (m[k]?.getD [])) := fun h0 => by
              obtain ⟨b, o, e, -, -, c⟩ := ha h0
              exact ⟨b, o, e, fun k hk => (HD.out.cell ⟨b, o + k, none⟩).trans (c k hk)⟩
            clear ha g0 g1 g2
            go_wp2
            go_loopw [42] (fun i W => ∃ k : Nat, k ≤ m.length ∧ i = .int .i64 k ∧ Hid (¬ OtherTo m k) ∧ Hid (Drawn wr W)) (fun i _ => m.length - (intOf i).toNat)
            case atStart => exact ⟨0, by omega, rfl, by rintro ⟨r, hr, _⟩; simp at hr, Drawn.refl _⟩
            case round =>
              obtain ⟨k, hk, rfl, HLT, HD3⟩ := hrel
              have g3 := (HD3.out.cell ⟨2, 0, none⟩).trans g0'
              by_cases hlt : k < m.length
              · obtain ⟨b, o, rfl, c⟩ := ha' (by omega)
                have ck := (HD3.out.cell ⟨b, o + k, none⟩).trans (c k hlt)
                obtain ⟨t, ht⟩ : ∃ t, (⟨(m[k]?.getD []).toArray⟩ : ByteArray) = t := ⟨_, rfl⟩
                rw [show encStr (m[k]?.getD []) = .string ⟨(m[k]?.getD []).toArray⟩ from rfl, ht] at ck
                have HT : Hid ((⟨(m[k]?.getD []).toArray⟩ : ByteArray) = t) := ht
                have hts := text_size ht
                rw [List.getElem?_eq_getElem hlt, Option.getD_some] at hts
                have ht24 : t.size ≤ 24 := by
                  rw [hts]
                  exact Nat.le_of_not_lt fun h => HNL.out (.inr ⟨m[k], List.getElem_mem hlt, h⟩)
                have HTS : Hid (t.size = m[k].length) := hts
                clear ha' c ht hts g0'
                go_wp2
                go_loopw [48] (fun i W => ∃ j : Nat, j ≤ t.size ∧ i = .int .i64 j ∧ Hid (¬ OtherIn (m[k]?.getD []) j) ∧ Hid (Drawn wr W)) (fun i _ => t.size - (intOf i).toNat)
                case atStart => exact ⟨0, by omega, rfl, by rintro ⟨r, hr, _⟩; simp at hr, Drawn.refl _⟩
                case round =>
                  obtain ⟨j, hj, rfl, HOJ, HD4⟩ := hrel
                  have g4 := (HD4.out.cell ⟨2, 0, none⟩).trans g3
                  by_cases hjl : j < t.size
                  · obtain ⟨q, hq⟩ : ∃ q, t[j]'hjl = q := ⟨_, rfl⟩
                    have hon := other_next HT.out hjl
                    rw [hq] at hon
                    have HON : Hid (OtherIn (m[k]?.getD []) (j + 1) ↔ OtherIn (m[k]?.getD []) j ∨ (q ≠ 35 ∧ q ≠ 46)) := hon
                    clear hon
                    have hq8 : q.toNat < 256 := q.toNat_lt
                    have h35 : ((q.toNat : Int) != 35) = decide (q ≠ 35) := byte_ne (n := 35) rfl
                    have h46 : ((q.toNat : Int) != 46) = decide (q ≠ 46) := byte_ne (n := 46) rfl
                    by_cases e35 : q = 35
                    · rw [decide_eq_false (by simpa using e35)] at h35
                      have HN : Hid (¬ OtherIn (m[k]?.getD []) (j + 1)) := by
                        show ¬ _
                        rw [HON.out]
                        exact fun h => h.elim HOJ.out fun h => h.1 e35
                      clear e35 h46
                      go_wp2
                      go_roundw
                      case rel => exact ⟨j + 1, by omega, by go_num, HN.out, (by first | exact HD4.out | exact HD4.out.drew)⟩
                      case measure => simp [intOf]; omega
                    · rw [decide_eq_true e35] at h35
                      by_cases e46 : q = 46
                      · rw [decide_eq_false (by simpa using e46)] at h46
                        have HN : Hid (¬ OtherIn (m[k]?.getD []) (j + 1)) := by
                          show ¬ _
                          rw [HON.out]
                          exact fun h => h.elim HOJ.out fun h => h.2 e46
                        clear e35 e46
                        go_wp2
                        go_roundw
                        case rel => exact ⟨j + 1, by omega, by go_num, HN.out, (by first | exact HD4.out | exact HD4.out.drew)⟩
                        case measure => simp [intOf]; omega
                      · rw [decide_eq_true e46] at h46
                        have HB : Hid (BadImg m 0) := by
                          refine .inr (.inr ⟨HNL.out, HNU.out, ?_, rfl⟩)
                          have h : OtherIn (m[k]?.getD []) (j + 1) := HON.out.2 (.inr ⟨e35, e46⟩)
                          rw [List.getElem?_eq_getElem hlt, Option.getD_some] at h
                          obtain ⟨x, hx, hx2⟩ := h
                          exact ⟨m[k], List.getElem_mem hlt, x, List.mem_of_mem_take hx, hx2⟩
                        clear e35 e46
                        go_wp2
                        go_ret
                        exact ⟨(by first | exact HD.out.trans (HD3.out.trans HD4.out) | exact HD.out.trans (HD3.out.trans HD4.out.drew)), .inl ⟨0, HB.out, rfl⟩⟩
                  · obtain rfl : j = t.size := by omega
                    have HN : Hid (¬ OtherTo m (k + 1)) := by
                      intro h
                      rcases (ex_take hlt).1 h with h | ⟨x, hx, h⟩
                      · exact HLT.out h
                      · refine HOJ.out ⟨x, ?_, h⟩
                        rw [List.getElem?_eq_getElem hlt, Option.getD_some, HTS.out, List.take_length]
                        exact hx
                    clear hjl HOJ
                    go_wp2
                    go_roundw
                    case rel => exact ⟨k + 1, by omega, by go_num, HN.out, HD3.out.trans HD4.out⟩
                    case measure => simp [intOf]; omega
              · obtain rfl : k = m.length := by omega
                have HOK : Hid (OkImg m) := ⟨HNL.out, HNU.out, by
                  rintro ⟨r, hr, h⟩
                  exact HLT.out ⟨r, by rw [List.take_length]; exact hr, h⟩⟩
                clear hlt HLT
                go_wp2
                go_ret
                exact ⟨HD.out.trans HD3.out, .inr ⟨HOK.out, rfl⟩⟩

end Go.Proofs.YtbmojlnkjeapkaaGreatDoor
