/- What Text answers: Valid's error, or the text. -/
import Derived.Test.YtklagnmkfbjagaaGreatDoorRefText
import Derived.Test.YtklagnmkfbjagaaGreatDoorShelfT
import Derived.Test.YtklagnmkfbjagaaGreatDoorValid
import Derived.Test.YtklagnmkfbjagaaGreatDoorKind0
namespace Go.Proofs.YtklagnmkfbjagaaGreatDoor
open Go.RowKit Go.Sort Go.Maps Go.Deep

theorem lib_join (sep : List UInt8) : ∀ (l : List (List UInt8)), Lib.join l sep = joinB sep l
  | [] => rfl
  | [x] => Lib.join_one x sep
  | x :: y :: r => by
    have ih := lib_join sep (y :: r)
    rw [Lib.join_cons] at ih ⊢
    simp only [joinB]
    rw [← ih]
    simp [Lib.joinTail]
theorem lib_dec {v : Int} (h : 0 ≤ v ∧ v ≤ 99) : Lib.decDigits v.toNat = dec v := by
  unfold dec
  split
  · exact Lib.decDigits_one (by omega)
  · exact Lib.decDigits_two (by omega) (by omega)
theorem rowIs_below {w w' : World} {b n : Nat} {t : TypeId} {f : Nat → Value} (h : w.rowIs b t n f) (hB : Below w.heap.size w w') : w'.rowIs b t n f := h.of_block (hB.block _ h.lt)

/-- strings.Join of a row of texts. -/
theorem join_row (w : World) (b n : Nat) (l : List (List UInt8)) (sep : List UInt8) (hn : l.length = n) (hr : w.rowIs b 9 n (fun j => .string ⟨(l[j]?.getD []).toArray⟩)) (h1 : n ≤ 100000) (h2 : (joinB sep l).length ≤ 1000000) (s : ByteArray) (hs : (⟨sep.toArray⟩ : ByteArray) = s) :
    Calls Tryz.prog 21 #[.slice (some ⟨b, 0, none⟩) n n, .string s] w fun e w' => e = .returned (.string ⟨(joinB sep l).toArray⟩) ∧ Below w.heap.size w w' := by
  have hm : (l.map (fun x => (⟨x.toArray⟩ : ByteArray))).map (·.data.toList) = l := by
    rw [List.map_map]
    exact (List.map_congr_left (fun x _ => by simp)).trans (List.map_id l)
  have hsd : s.data.toList = sep := by rw [← hs]
  have := Tryz.strings_Join b 0 n (l.map (fun x => (⟨x.toArray⟩ : ByteArray))) s w (fun j x hx => by
    rw [List.getElem?_map, Option.map_eq_some_iff] at hx
    obtain ⟨y, hy, rfl⟩ := hx
    have hj : j < n := by rw [← hn]; exact (List.getElem?_eq_some_iff.1 hy).1
    rw [Nat.zero_add, hr.cell hj, hy]; rfl) hr.lt (by simp; omega) (by simp; omega) (by rw [hm, hsd, lib_join]; omega)
  rw [hm, hsd, lib_join, List.length_map, hn] at this
  exact this

theorem srt_ok {x : List Int} (h : SetOk x) : SetOk (srt x) := by
  refine ⟨fun e => ?_, (srt_rising h.2.1).imp (fun h => Int.ne_of_lt h), fun v hv => h.2.2 v ((srt_mem x v).1 hv)⟩
  obtain ⟨v, hv⟩ := List.exists_mem_of_ne_nil _ h.1
  have := (srt_mem x v).2 hv
  rw [e] at this; cases this
theorem valid_k {a : Nat → Addr} {s : Nat → ByteArray} {l all : List (List Int)} {ve : Value} {n : Int} (h : Kind a l ve n all) (vl : Value) (w : World) (hE : Errs a s w) (hl : Rows w vl l) (hll : l.length ≤ 100000) (hle : ∀ x ∈ l, x.length ≤ 1000) :
    Calls Tryz.prog 19 #[.agg #[vl]] w fun e w' => e = .returned ve ∧ Below w.heap.size w w' := by
  refine (valid_ vl l w hE hl hll hle).mono ?_
  rintro e w' ⟨hB, hcase⟩
  refine ⟨?_, hB⟩
  rcases h with ⟨i, hb, rfl, -, -⟩ | ⟨g, rfl, -⟩
  · rcases hcase with ⟨hno, rfl⟩ | ⟨hok, ts, hts, ⟨hov, rfl⟩ | ⟨hno, ss, h1, h2, ⟨hne, rfl⟩ | ⟨heq, rfl⟩⟩⟩
    · rw [bad_one hb (.inl ⟨rfl, hno⟩)]
    · rw [bad_one hb (.inr (.inl ⟨rfl, hok, over_back hts hov⟩))]
    · obtain ⟨all, hal⟩ := all_ex (g := l.map srt) (fun t ht => by obtain ⟨x, hx, rfl⟩ := List.mem_map.1 ht; exact srt_ok (hok x hx))
      rw [bad_one hb (.inr (.inr ⟨rfl, hok, fun h => hno (over_told hts h), fun all hal h => hne ((told_same hok hts h1 h2 hal).trans h)⟩))]
    · exfalso
      obtain ⟨all, hal⟩ := all_ex (g := l.map srt) (fun t ht => by obtain ⟨x, hx, rfl⟩ := List.mem_map.1 ht; exact srt_ok (hok x hx))
      exact bad_good hb ⟨hok, fun h => hno (over_told hts h), hal, (told_same hok hts h1 h2 hal).symm.trans heq⟩
  · rcases hcase with ⟨hno, rfl⟩ | ⟨hok, ts, hts, ⟨hov, rfl⟩ | ⟨hno, ss, h1, h2, ⟨hne, rfl⟩ | ⟨heq, rfl⟩⟩⟩
    · exact absurd g.ok hno
    · exact absurd (over_back hts hov) g.few
    · exact absurd ((told_same hok hts h1 h2 g.isAll).trans g.same) hne
    · rfl
theorem Good.plain {l all : List (List Int)} (g : Good l all) : Plain l := fun x hx => ⟨(g.ok x hx).1, (g.ok x hx).2.2⟩

set_option maxRecDepth 100000 in
set_option maxHeartbeats 4000000 in
theorem text_ok {a : Nat → Addr} {s : Nat → ByteArray} (vl : Value) (l all : List (List Int)) (g : Good l all) (w : World) (hE : Errs a s w) (hl : Rows w vl l) (hll : l.length ≤ 1000) (hle : ∀ x ∈ l, x.length ≤ 1000) (hT : (textC l).length ≤ 1000000) :
    Calls Tryz.prog 7 #[.agg #[vl]] w fun e w' => e = .returned (.tuple #[.string ⟨(textC l).toArray⟩, .nilIface]) ∧ Below w.heap.size w w' := by
  obtain ⟨al, cl, rfl, -, hcc⟩ := hl.open_
  have hBa : Below w.heap.size w (w.alloc (.cells #[.slice al l.length cl] 31)) := (Below.refl _ w).alloc (Nat.le_refl _) _
  have hbox := (box_new w (.slice al l.length cl) 31).1
  have hva := valid_k (a := a) (ve := .nilIface) (n := 0) (all := all) (.inr ⟨g, rfl, rfl⟩) _ (w.alloc (.cells #[.slice al l.length cl] 31)) (hE.below hBa) (hl.below hBa) (by omega) hle
  have HR : Hid (Rows w (.slice al l.length cl) l) := hl
  have HP : Hid (Plain l) := g.plain
  have HE : Hid (∀ x ∈ l, x.length ≤ 1000) := hle
  clear hl hle g
  go_enter Tryz.func7, Tryz.ntmps7
  go_wp2_with fail
  refine hva.mono ?_
  clear hva
  rintro e w2 ⟨rfl, hB2⟩
  have HB2 : Hid (Below w.heap.size w w2) := hBa.trans (hB2.mono (by simp))
  have hbc := (hB2.cell (p := ⟨w.heap.size, 0, none⟩) (by simp)).trans hbox
  have hmk := run_make_row' (P := Tryz.prog) 50 9 (.string ⟨#[]⟩) 16 Tryz.underlying50 Tryz.info9 rfl .i64 .i64 l.length (by omega) (by omega)
  have hbc2 : ∀ o, (w2.alloc o).cell? ⟨w.heap.size, 0, none⟩ = some (.slice al l.length cl) := fun o => (((Below.refl _ w2).alloc (Nat.le_refl _) o).cell (p := ⟨w.heap.size, 0, none⟩) (cell_lt hbc)).trans hbc
  have hw2 : w.heap.size < w2.heap.size := cell_lt hbc
  clear hB2 hbox
  go_wp2
  go_loopw [23] (fun p W => ∃ i : Nat, i ≤ l.length ∧ p = .int .i64 i ∧ W.rowIs w2.heap.size 9 l.length (fun j => .string ⟨(if j < i then textS (l[j]?.getD []) else []).toArray⟩) ∧ Below w.heap.size w W) (fun p _ => l.length - (intOf p).toNat)
  case atStart => exact ⟨0, Nat.zero_le _, rfl, (World.rowIs_made _ _ _ _).congr (fun j _ => by simp), HB2.out.alloc (by omega) _⟩
  case round =>
    obtain ⟨i, hi, rfl, hrow, hB⟩ := hrel
    by_cases hlt : i < l.length
    · obtain ⟨b, of, rfl, -, hb, hcell⟩ := hcc (by omega)
      obtain ⟨a1, p1, g1, i1⟩ := hcell i hlt
      obtain ⟨x, hx⟩ : ∃ x, l[i]?.getD [] = x := ⟨_, rfl⟩
      have hxm : x ∈ l := by rw [← hx, List.getElem?_eq_getElem hlt]; simp
      have hxl := HE.out x hxm
      have HX : Hid (l[i]?.getD [] = x ∧ x ≠ [] ∧ ∀ v ∈ x, 0 ≤ v ∧ v ≤ 99) := ⟨hx, HP.out x hxm⟩
      rw [hx] at g1 i1
      obtain ⟨a9, c9, he, -, hcv0⟩ := i1.open_
      cases he
      obtain ⟨b2, o2, rfl, -, hb2, hcv⟩ := hcv0 (List.length_pos_iff.2 HX.out.2.1)
      have g0 := (hB.cell (p := ⟨b, of + i, none⟩) hb).trans g1
      have hmk := run_make_row' (P := Tryz.prog) 50 9 (.string ⟨#[]⟩) 16 Tryz.underlying50 Tryz.info9 rfl .i64 .i64 x.length (by omega) (by omega)
      have HROW : Hid (wr.rowIs w2.heap.size 9 l.length (fun j => .string ⟨(if j < i then textS (l[j]?.getD []) else []).toArray⟩)) := hrow
      obtain ⟨wo, hwo⟩ : ∃ W, W = wr := ⟨_, rfl⟩
      subst hwo
      have hwl : w2.heap.size < wo.heap.size := hrow.lt
      clear hx hxm i1 hcc hcell hcv0 hrow
      go_wp2
      go_loopw [33] (fun p W => ∃ k : Nat, k ≤ x.length ∧ p = .int .i64 k ∧ W.rowIs wo.heap.size 9 x.length (fun j => .string ⟨(if j < k then dec (x[j]?.getD 0) else []).toArray⟩) ∧ Hid (W.rowIs w2.heap.size 9 l.length (fun j => .string ⟨(if j < i then textS (l[j]?.getD []) else []).toArray⟩)) ∧ Below w.heap.size w W) (fun p _ => x.length - (intOf p).toNat)
      case atStart => exact ⟨0, Nat.zero_le _, rfl, (World.rowIs_made _ _ _ _).congr (fun j _ => by simp), HROW.out.alloc _, hB.alloc (by omega) _⟩
      case round =>
        obtain ⟨k, hk, rfl, hrow2, HR2, hB2⟩ := hrel
        by_cases hlt2 : k < x.length
        · obtain ⟨v, hv⟩ : ∃ v, x[k]?.getD 0 = v := ⟨_, rfl⟩
          have gv := (hB2.cell (p := ⟨b2, o2 + k, none⟩) hb2).trans (hcv k hlt2)
          rw [hv] at gv
          have hvr : 0 ≤ v ∧ v ≤ 99 := HX.out.2.2 v (by rw [← hv, List.getElem?_eq_getElem hlt2]; simp)
          have hit := Tryz.strconv_Itoa_small v.toNat (by omega) wr
          rw [show ((v.toNat : Nat) : Int) = v by omega, lib_dec hvr] at hit
          have hcell := hrow2.cell hlt2
          have hfz := hrow2.frozen k
          have HROW2 : Hid (wr.rowIs wo.heap.size 9 x.length (fun j => .string ⟨(if j < k then dec (x[j]?.getD 0) else []).toArray⟩)) := hrow2
          simp only [Nat.lt_irrefl, if_false] at hcell
          obtain ⟨y, hy⟩ : ∃ y, (⟨(dec v).toArray⟩ : ByteArray) = y := ⟨_, rfl⟩
          rw [hy] at hit
          have HY : Hid ((⟨(dec v).toArray⟩ : ByteArray) = y ∧ x[k]?.getD 0 = v) := ⟨hy, hv⟩
          clear hrow2 hv hy hvr
          go_wp2_with fail
          refine hit.mono ?_
          clear hit
          rintro e w3 ⟨rfl, rfl⟩
          go_wp2
          go_roundw
          case rel =>
            refine ⟨k + 1, by omega, by go_num, (HROW2.out.set k _).congr (fun j _ => ?_), HR2.out.setOther (by simp; omega) _, hB2.setCell (p := ⟨wo.heap.size, k, none⟩) (by show w.heap.size ≤ wo.heap.size; omega) _⟩
            by_cases e : j = k
            · subst e
              rw [if_pos rfl, if_pos (Nat.lt_succ_self _), HY.out.2, HY.out.1]
            · rw [if_neg e]
              by_cases e2 : j < k
              · rw [if_pos e2, if_pos (by omega)]
              · rw [if_neg e2, if_neg (by omega)]
          case measure => simp [intOf]; omega
        · obtain rfl : k = x.length := by omega
          have hjo := join_row wr wo.heap.size x.length (x.map dec) [32] (by simp) (hrow2.congr (fun j hj => by rw [if_pos hj, List.getElem?_map, List.getElem?_eq_getElem hj]; rfl)) (by omega) (by have := textS_length x; show (textS x).length ≤ _; omega) ⟨#[32]⟩ rfl
          obtain ⟨y, hy⟩ : ∃ y, (⟨(joinB [32] (x.map dec)).toArray⟩ : ByteArray) = y := ⟨_, rfl⟩
          rw [hy] at hjo
          have HY : Hid ((⟨(textS x).toArray⟩ : ByteArray) = y) := hy
          clear hy hrow2
          go_wp2_with fail
          refine hjo.mono ?_
          clear hjo
          rintro e w3 ⟨rfl, hB3⟩
          have hr3 := rowIs_below HR2.out hB3
          have hcell := hr3.cell hlt
          have hfz := hr3.frozen i
          have HR3 : Hid (w3.rowIs w2.heap.size 9 l.length (fun j => .string ⟨(if j < i then textS (l[j]?.getD []) else []).toArray⟩)) := hr3
          simp only [Nat.lt_irrefl, if_false] at hcell
          have HB3 : Hid (Below w.heap.size w w3) := hB2.trans (hB3.mono hB2.size)
          clear hr3 hB3
          go_wp2
          go_roundw
          case rel =>
            refine ⟨i + 1, by omega, by go_num, (HR3.out.set i _).congr (fun j _ => ?_), HB3.out.setCell (p := ⟨w2.heap.size, i, none⟩) (by show w.heap.size ≤ w2.heap.size; omega) _⟩
            by_cases e : j = i
            · subst e
              rw [if_pos rfl, if_pos (Nat.lt_succ_self _), HX.out.1, HY.out]
            · rw [if_neg e]
              by_cases e2 : j < i
              · rw [if_pos e2, if_pos (by omega)]
              · rw [if_neg e2, if_neg (by omega)]
          case measure => simp [intOf]; omega
    · obtain rfl : i = l.length := by omega
      have hjo := join_row wr w2.heap.size l.length (l.map textS) [59, 32] (by simp) (hrow.congr (fun j hj => by rw [if_pos hj, List.getElem?_map, List.getElem?_eq_getElem hj]; rfl)) (by omega) hT ⟨#[59, 32]⟩ rfl
      have hjo2 : Calls Tryz.prog 21 #[.slice (some ⟨w2.heap.size, 0, none⟩) l.length l.length, .string ⟨#[59, 32]⟩] wr fun e w' => e = .returned (.string ⟨(textC l).toArray⟩) ∧ Below wr.heap.size wr w' := hjo
      obtain ⟨y, hy⟩ : ∃ y, (⟨(textC l).toArray⟩ : ByteArray) = y := ⟨_, rfl⟩
      rw [hy] at hjo2
      have HY : Hid ((⟨(textC l).toArray⟩ : ByteArray) = y) := hy
      clear hjo hrow hcc hy
      go_wp2_with fail
      refine hjo2.mono ?_
      clear hjo2
      rintro e w3 ⟨rfl, hB3⟩
      go_wp2
      go_ret2
      exact ⟨by rw [HY.out]; rfl, hB.trans (hB3.mono hB.size)⟩

set_option maxRecDepth 100000 in
theorem text_err {a : Nat → Addr} {s : Nat → ByteArray} (vl : Value) (l : List (List Int)) (i : Nat) (hb : BadAt l i) (w : World) (hE : Errs a s w) (hl : Rows w vl l) (hll : l.length ≤ 1000) (hle : ∀ x ∈ l, x.length ≤ 1000) :
    Calls Tryz.prog 7 #[.agg #[vl]] w fun e w' => e = .returned (.tuple #[.string ⟨#[]⟩, .iface 168 (.pointer (some (a i)))]) ∧ Below w.heap.size w w' := by
  obtain ⟨al, cl, rfl, -, hcc⟩ := hl.open_
  have hBa : Below w.heap.size w (w.alloc (.cells #[.slice al l.length cl] 31)) := (Below.refl _ w).alloc (Nat.le_refl _) _
  have hbox := (box_new w (.slice al l.length cl) 31).1
  have hva := valid_k (a := a) (n := (i : Int) + 1) (.inl ⟨i, hb, rfl, rfl, rfl⟩) _ (w.alloc (.cells #[.slice al l.length cl] 31)) (hE.below hBa) (hl.below hBa) (by omega) hle
  clear hl hle hcc hb
  go_enter Tryz.func7, Tryz.ntmps7
  go_wp2_with fail
  refine hva.mono ?_
  clear hva
  rintro e w2 ⟨rfl, hB2⟩
  have HB2 : Hid (Below w.heap.size w w2) := hBa.trans (hB2.mono (by simp))
  go_wp2
  go_ret2
  exact ⟨rfl, HB2.out⟩

end Go.Proofs.YtklagnmkfbjagaaGreatDoor
