/- What the reference's Decimal and FacetText answer: the text of sets of numbers below a hundred. -/
import Derived.Test.YtklagnmkfbjagaaGreatDoorTextMath2
import Derived.Test.YtklagnmkfbjagaaGreatDoorSetText
import Derived.Test.YtklagnmkfbjagaaGreatDoorMake
import Derived.Laws.Concat
import Derived.Deep.RegionWith
namespace Go.Proofs.YtklagnmkfbjagaaGreatDoor
open Go.RowKit Go.Sort

theorem wrap_i64 {x : Int} (h0 : 0 ≤ x) (h1 : x ≤ 1000) : IntKind.i64.wrap x = x := by rw [IntKind.wrap_i64]; omega
theorem wrap_u8 {x : Int} (h0 : 0 ≤ x) (h1 : x ≤ 255) : IntKind.u8.wrap x = x := by
  simp [IntKind.wrap, IntKind.bits, IntKind.signed]
  omega
/-- A digit's text. -/
theorem digit_text (w : World) (k : Nat) (hk : k < 10) (n : Int) (hn : n = 48 + (k : Int)) (x : ByteArray) (hx : (⟨#[UInt8.ofNat (48 + k)]⟩ : ByteArray) = x) :
    (convert 73 9 (.slice (some ⟨w.heap.size, 0, none⟩) 1 1)).run Tryz.prog (w.alloc (.cells #[.int .u8 n] 5)) = .ok (.string x) (w.alloc (.cells #[.int .u8 n] 5)) := by
  subst hx
  refine run_convert_bytes_back _ 73 9 5 ⟨w.heap.size, 0, none⟩ 1 [UInt8.ofNat (48 + k)] Tryz.underlying73 Tryz.underlying5 Tryz.underlying9 (fun j hj => ?_)
  have hj0 : j = 0 := by simpa using hj
  subst hj0
  have e : (UInt8.ofNat (48 + k)).toNat = 48 + k := by rw [UInt8.toNat_ofNat']; omega
  show _ = some (Value.int .u8 ((UInt8.ofNat (48 + k)).toNat : Int))
  rw [e, show ((48 + k : Nat) : Int) = n by omega]
  exact (box_new w (.int .u8 n) 5).1

theorem digit_below {w w2 : World} (k : Nat) (hk : k < 10) (n : Int) (hn : n = 48 + (k : Int)) (x : ByteArray) (hx : (⟨#[UInt8.ofNat (48 + k)]⟩ : ByteArray) = x) (hB : Below (w.alloc (.cells #[.int .u8 n] 5)).heap.size (w.alloc (.cells #[.int .u8 n] 5)) w2) :
    (convert 73 9 (.slice (some ⟨w.heap.size, 0, none⟩) 1 1)).run Tryz.prog w2 = .ok (.string x) w2 := by
  subst hx
  refine run_convert_bytes_back _ 73 9 5 ⟨w.heap.size, 0, none⟩ 1 [UInt8.ofNat (48 + k)] Tryz.underlying73 Tryz.underlying5 Tryz.underlying9 (fun j hj => ?_)
  have hj0 : j = 0 := by simpa using hj
  subst hj0
  have e : (UInt8.ofNat (48 + k)).toNat = 48 + k := by rw [UInt8.toNat_ofNat']; omega
  show _ = some (Value.int .u8 ((UInt8.ofNat (48 + k)).toNat : Int))
  rw [e, show ((48 + k : Nat) : Int) = n by omega]
  exact (hB.cell (p := ⟨w.heap.size, 0, none⟩) (by simp)).trans (box_new w (.int .u8 n) 5).1

set_option maxRecDepth 100000 in
theorem decimal_one (k : Nat) (hk : k < 10) (w : World) :
    Calls Tryz.prog 22 #[.int .i64 (k : Int)] w fun e w' => e = .returned (.string ⟨(dec k).toArray⟩) ∧ Below w.heap.size w w' := by
  obtain ⟨x, hx⟩ : ∃ x, (⟨#[UInt8.ofNat (48 + k)]⟩ : ByteArray) = x := ⟨_, rfl⟩
  have hcv := digit_text w k hk (48 + (k : Int)) rfl x hx
  have HD : Hid (x = ⟨(dec k).toArray⟩) := by
    show _ = _
    rw [← hx]
    unfold dec
    rw [if_pos (by omega)]; simp
  clear hx
  go_enter Tryz.func22, Tryz.ntmps22
  go_wp2
  go_ret
  exact ⟨by rw [← HD.out]; rfl, (Below.refl _ w).alloc (Nat.le_refl _) _⟩

set_option maxRecDepth 100000 in
set_option maxHeartbeats 4000000 in
theorem decimal_ (v : Int) (h : 0 ≤ v ∧ v ≤ 99) (w : World) :
    Calls Tryz.prog 22 #[.int .i64 v] w fun e w' => e = .returned (.string ⟨(dec v).toArray⟩) ∧ Below w.heap.size w w' := by
  by_cases h10 : v < 10
  · have := decimal_one v.toNat (by omega) w
    rwa [show ((v.toNat : Nat) : Int) = v by omega] at this
  · obtain ⟨q, hq⟩ : ∃ q : Nat, v / 10 = (q : Int) := ⟨(v / 10).toNat, by omega⟩
    obtain ⟨r, hr⟩ : ∃ r : Nat, v % 10 = (r : Int) := ⟨(v % 10).toNat, by omega⟩
    have hq9 : q < 10 := by omega
    have hr9 : r < 10 := by omega
    have hde : dec v = [UInt8.ofNat (48 + q), UInt8.ofNat (48 + r)] := by
      unfold dec
      rw [if_neg h10]
      congr 2
      · congr 1; omega
      · congr 2; omega
    have hdq : dec (q : Int) = [UInt8.ofNat (48 + q)] := by
      unfold dec
      rw [if_pos (by omega)]; simp
    have HD : Hid (dec v = dec q ++ [UInt8.ofNat (48 + r)]) := by show _ = _; rw [hde, hdq]; rfl
    have hdc : ∀ W, Calls Tryz.prog 22 #[.int .i64 (q : Int)] W fun e w' => e = .returned (.string ⟨(dec q).toArray⟩) ∧ Below W.heap.size W w' := fun W => decimal_one q hq9 W
    obtain ⟨x, hx⟩ : ∃ x, (⟨#[UInt8.ofNat (48 + r)]⟩ : ByteArray) = x := ⟨_, rfl⟩
    obtain ⟨y, hy⟩ : ∃ y, (⟨(dec q).toArray⟩ : ByteArray) = y := ⟨_, rfl⟩
    have HXY : Hid (y ++ x = ⟨(dec v).toArray⟩) := by show _ = _; rw [← hx, ← hy, HD.out]; exact ByteArray.mk_append_mk _ [_]
    rw [hy] at hdc
    have hxs : x.size = 1 := by rw [← hx]; rfl
    have hys : y.size = 1 := by rw [← hy, hdq]; rfl
    have hcv : ∀ W : World, (convert 73 9 (.slice (some ⟨W.heap.size, 0, none⟩) 1 1)).run Tryz.prog (W.alloc (.cells #[.int .u8 (48 + (r : Int))] 5)) = .ok (.string x) (W.alloc (.cells #[.int .u8 (48 + (r : Int))] 5)) := fun W => digit_text W r hr9 _ rfl x hx
    have HX : Hid ((⟨#[UInt8.ofNat (48 + r)]⟩ : ByteArray) = x) := hx
    clear hde hdq hx hy HD
    have hqt : v.tdiv 10 = (q : Int) := by rw [Int.tdiv_eq_ediv_of_nonneg h.1]; exact hq
    have hrt : v.tmod 10 = (r : Int) := by rw [Int.tmod_eq_emod_of_nonneg h.1]; exact hr
    have hcvd : (convert 73 9 (.slice (some ⟨w.heap.size, 0, none⟩) 1 1)).run Tryz.prog (w.alloc (.cells #[.int .u8 (48 + (r : Int))] 5)).drew = .ok (.string x) (w.alloc (.cells #[.int .u8 (48 + (r : Int))] 5)).drew := digit_below (w := w) r hr9 (48 + (r : Int)) rfl x HX.out (Below.refl _ _).drew
    have hw : IntKind.i64.wrap (q : Int) = (q : Int) := wrap_i64 (by omega) (by omega)
    have hw2 : IntKind.i64.wrap (48 + (r : Int)) = 48 + (r : Int) := wrap_i64 (by omega) (by omega)
    have hw3 : IntKind.u8.wrap (48 + (r : Int)) = 48 + (r : Int) := wrap_u8 (by omega) (by omega)
    go_enter Tryz.func22, Tryz.ntmps22
    go_wp2_with fail
    go_region_with (go_at_call 22; refine (hdc _).mono ?_; rintro e w2 ⟨rfl, hB2⟩; try (have hcv2 : (convert 73 9 (.slice (some ⟨w.heap.size, 0, none⟩) 1 1)).run Tryz.prog w2 = .ok (.string x) w2 := digit_below (w := w.drew) r hr9 (48 + (r : Int)) rfl x HX.out hB2))
    all_goals go_wp2
    all_goals go_ret
    all_goals refine ⟨by rw [← HXY.out]; rfl, ?_⟩
    · exact ((Below.refl _ w).drew.trans (hB2.mono (Nat.le_refl _))).alloc hB2.size _
    · exact (((Below.refl _ w).alloc (Nat.le_refl _) _).drew).trans (hB2.mono (by simp))
    · exact (((Below.refl _ w).alloc (Nat.le_refl _) _).drew).trans (hB2.mono (by simp))

theorem joinB_snoc (sep : List UInt8) (x : List UInt8) : ∀ (l : List (List UInt8)), joinB sep (l ++ [x]) = if l = [] then x else joinB sep l ++ (sep ++ x)
  | [] => rfl
  | [y] => rfl
  | y :: z :: r => by
    have ih := joinB_snoc sep x (z :: r)
    rw [if_neg (by simp)] at ih ⊢
    simp only [List.cons_append, joinB] at ih ⊢
    rw [ih]; simp only [List.append_assoc]
theorem textS_succ {S : List Int} {k : Nat} (hk : k < S.length) : textS (S.take (k + 1)) = (if k = 0 then [] else textS (S.take k) ++ [32]) ++ dec (S[k]?.getD 0) := by
  unfold textS
  rw [List.take_add_one, List.getElem?_eq_getElem hk, Option.toList, List.map_append, List.map_cons, List.map_nil, joinB_snoc, Option.getD_some]
  by_cases h : k = 0
  · subst h; simp
  · rw [if_neg (by intro e; have := congrArg List.length e; rw [List.length_map, List.length_take, List.length_nil] at this; omega), if_neg h, List.append_assoc]
theorem textC_succ {c : List (List Int)} {k : Nat} (hk : k < c.length) : textC (c.take (k + 1)) = (if k = 0 then [] else textC (c.take k) ++ [59, 32]) ++ textS (c[k]?.getD []) := by
  unfold textC
  rw [List.take_add_one, List.getElem?_eq_getElem hk, Option.toList, List.map_append, List.map_cons, List.map_nil, joinB_snoc, Option.getD_some]
  by_cases h : k = 0
  · subst h; simp
  · rw [if_neg (by intro e; have := congrArg List.length e; rw [List.length_map, List.length_take, List.length_nil] at this; omega), if_neg h, List.append_assoc]
/-- A text of these bytes. -/
def TextIs (o : ByteArray) (l : List UInt8) : Prop := o = ⟨l.toArray⟩
theorem TextIs.size {o : ByteArray} {l : List UInt8} (h : TextIs o l) : o.size = l.length := by rw [h]; simp [ByteArray.size]
theorem TextIs.append {o p : ByteArray} {l m : List UInt8} (h : TextIs o l) (h2 : TextIs p m) : TextIs (o ++ p) (l ++ m) := by
  unfold TextIs at *
  rw [h, h2]; exact ByteArray.mk_append_mk l m

set_option maxRecDepth 100000 in
set_option maxHeartbeats 4000000 in
theorem facettext_ (vc : Value) (c : List (List Int)) (w : World) (hc : Rows w vc c) (hok : Plain c) (hcl : c.length ≤ 1000) (hce : ∀ x ∈ c, x.length ≤ 1000) (hT : ∀ i, (textC (c.take i)).length ≤ 100000) :
    Calls Tryz.prog 9 #[vc] w fun e w' => e = .returned (.string ⟨(textC c).toArray⟩) ∧ Below w.heap.size w w' := by
  have HR : Hid (Rows w vc c) := hc
  obtain ⟨ac, cc, rfl, -, hcc⟩ := hc.open_
  have HOK : Hid (Plain c) := hok
  have HT : Hid (∀ i, (textC (c.take i)).length ≤ 100000) := hT
  have HE : Hid (∀ x ∈ c, x.length ≤ 1000) := hce
  clear hc hok hce hT
  go_enter Tryz.func9, Tryz.ntmps9
  go_wp2
  go_loopw [3, 4] (fun q p W => ∃ (i : Nat) (o : ByteArray), i ≤ c.length ∧ q = .string o ∧ p = .int .i64 i ∧ Hid (TextIs o (textC (c.take i))) ∧ Below w.heap.size w W) (fun _ p _ => c.length - (intOf p).toNat)
  case atStart => exact ⟨0, ⟨#[]⟩, Nat.zero_le _, rfl, rfl, rfl, Below.refl _ _⟩
  case round =>
    obtain ⟨i, o, hi, rfl, rfl, HO, hB⟩ := hrel
    have hos : o.size ≤ 100000 := by rw [HO.out.size]; exact HT.out i
    by_cases hlt : i < c.length
    · obtain ⟨b, of, rfl, -, hb, hcell⟩ := hcc (by omega)
      obtain ⟨a1, p1, g1, i1⟩ := hcell i hlt
      obtain ⟨x, hx⟩ : ∃ x, c[i]?.getD [] = x := ⟨_, rfl⟩
      have hxm : x ∈ c := by rw [← hx, List.getElem?_eq_getElem hlt]; simp
      have hxl := HE.out x hxm
      have HX : Hid (c[i]?.getD [] = x ∧ x ≠ [] ∧ ∀ v ∈ x, 0 ≤ v ∧ v ≤ 99) := ⟨hx, HOK.out x hxm⟩
      rw [hx] at g1 i1
      have HI : Hid (Ints w (.slice a1 x.length p1) x) := i1
      clear hx hxm i1 hcc hcell
      have g0 := (hB.cell (p := ⟨b, of + i, none⟩) hb).trans g1
      obtain ⟨wo, hwo⟩ : ∃ W, W = wr := ⟨_, rfl⟩
      subst hwo
      obtain ⟨BS, hBS⟩ : ∃ BS, (if i = 0 then [] else textC (c.take i) ++ [59, 32]) = BS := ⟨_, rfl⟩
      have HBL : Hid (BS.length ≤ 100002 ∧ textC (c.take (i + 1)) = BS ++ textS x) := by
        refine ⟨?_, by rw [textC_succ hlt, HX.out.1, hBS]⟩
        have := HT.out i
        rw [← hBS]
        split
        · simp
        · simp only [List.length_append, List.length_cons, List.length_nil]; omega
      by_cases h0 : i = 0
      · have HBS : Hid (TextIs o BS) := by
          have := HO.out
          rw [← hBS, if_pos h0]
          rw [h0] at this
          exact this
        have hip : ¬ 0 < i := by omega
        clear h0 hBS
        obtain ⟨a9, c9, he, -, hcv0⟩ := HI.out.open_
        cases he
        obtain ⟨b2, o2, rfl, -, hb2, hcv⟩ := hcv0 (List.length_pos_iff.2 HX.out.2.1)
        go_wp2
        go_loopw [3, 5] (fun q p W => ∃ (k : Nat) (u : ByteArray), k ≤ x.length ∧ q = .string u ∧ p = .int .i64 k ∧ Hid (TextIs u (BS ++ textS (x.take k))) ∧ Below w.heap.size w W) (fun _ p _ => x.length - (intOf p).toNat)
        case atStart => exact ⟨0, _, Nat.zero_le _, rfl, rfl, (by show TextIs _ (BS ++ textS (x.take 0)); rw [List.take_zero]; have e : textS [] = [] := rfl; rw [e, List.append_nil]; exact HBS.out), hB⟩
        case round =>
          obtain ⟨k, u, hk, rfl, rfl, HU, hB2⟩ := hrel
          have hus : u.size ≤ 200000 := by
            have h1 := textS_length (x.take k)
            have h2 := HBL.out.1
            have h3 : (x.take k).length ≤ 1000 := by rw [List.length_take]; omega
            rw [HU.out.size, List.length_append]
            omega
          have g2 := (hB2.cell (p := ⟨b, of + i, none⟩) hb).trans g1
          by_cases hlt2 : k < x.length
          · obtain ⟨v, hv⟩ : ∃ v, x[k]?.getD 0 = v := ⟨_, rfl⟩
            have gv := (hB2.cell (p := ⟨b2, o2 + k, none⟩) hb2).trans (hcv k hlt2)
            rw [hv] at gv
            have hvr : 0 ≤ v ∧ v ≤ 99 := HX.out.2.2 v (by rw [← hv, List.getElem?_eq_getElem hlt2]; simp)
            have hdec := decimal_ v hvr wr
            obtain ⟨y, hy⟩ : ∃ y, (⟨(dec v).toArray⟩ : ByteArray) = y := ⟨_, rfl⟩
            rw [hy] at hdec
            have hys : y.size ≤ 2 := by rw [← hy]; have := (dec_length v).2; simpa [ByteArray.size] using this
            have HY : Hid (TextIs y (dec v) ∧ x[k]?.getD 0 = v) := ⟨hy.symm, hv⟩
            clear hv hy hvr
            by_cases hk0 : k = 0
            · have HN : Hid (TextIs (u ++ y) (BS ++ textS (x.take (k + 1)))) := by
                rw [textS_succ hlt2, if_pos hk0, HY.out.2, List.nil_append]
                have := HU.out
                rw [hk0, List.take_zero] at this
                have e : textS [] = [] := rfl
                rw [e, List.append_nil] at this
                exact this.append HY.out.1
              have hkn : ¬ 0 < k := by omega
              clear hk0
              go_wp2_with fail
              refine hdec.mono ?_
              clear hdec
              rintro e w3 ⟨rfl, hB3⟩
              have HB3 : Hid (Below w.heap.size w w3) := hB2.trans (hB3.mono hB2.size)
              clear hB3
              go_wp2
              go_roundw
              case rel => exact ⟨k + 1, u ++ y, by omega, rfl, by go_num, HN.out, HB3.out⟩
              case measure => simp [intOf]; omega
            · have hkp : 0 < k := by omega
              have HN : Hid (TextIs (u ++ ⟨#[32]⟩ ++ y) (BS ++ textS (x.take (k + 1)))) := by
                rw [textS_succ hlt2, if_neg hk0, HY.out.2, ← List.append_assoc, ← List.append_assoc]
                exact (HU.out.append (rfl : TextIs ⟨#[32]⟩ [32])).append HY.out.1
              clear hk0
              go_wp2_with fail
              refine hdec.mono ?_
              clear hdec
              rintro e w3 ⟨rfl, hB3⟩
              have HB3 : Hid (Below w.heap.size w w3) := hB2.trans (hB3.mono hB2.size)
              clear hB3
              have hsz1 : (u ++ (⟨#[32]⟩ : ByteArray)).size = u.size + 1 := by rw [ByteArray.size_append]; rfl
              go_wp2
              go_roundw
              case rel => exact ⟨k + 1, u ++ (⟨#[32]⟩ : ByteArray) ++ y, by omega, rfl, by go_num, HN.out, HB3.out⟩
              case measure => simp [intOf]; omega
          · obtain rfl : k = x.length := by omega
            have HN : Hid (TextIs u (textC (c.take (i + 1)))) := by
              have := HU.out
              rw [List.take_length] at this
              rw [HBL.out.2]; exact this
            go_wp2
            go_roundw
            case rel => exact ⟨i + 1, u, by omega, rfl, by go_num, HN.out, hB2⟩
            case measure => simp [intOf]; omega
      · have HBS : Hid (TextIs (o ++ ⟨#[59, 32]⟩) BS) := by
          rw [← hBS, if_neg h0]
          exact HO.out.append rfl
        have hip : 0 < i := by omega
        clear h0 hBS
        obtain ⟨a9, c9, he, -, hcv0⟩ := HI.out.open_
        cases he
        obtain ⟨b2, o2, rfl, -, hb2, hcv⟩ := hcv0 (List.length_pos_iff.2 HX.out.2.1)
        go_wp2
        go_loopw [3, 5] (fun q p W => ∃ (k : Nat) (u : ByteArray), k ≤ x.length ∧ q = .string u ∧ p = .int .i64 k ∧ Hid (TextIs u (BS ++ textS (x.take k))) ∧ Below w.heap.size w W) (fun _ p _ => x.length - (intOf p).toNat)
        case atStart => exact ⟨0, _, Nat.zero_le _, rfl, rfl, (by show TextIs _ (BS ++ textS (x.take 0)); rw [List.take_zero]; have e : textS [] = [] := rfl; rw [e, List.append_nil]; exact HBS.out), hB⟩
        case round =>
          obtain ⟨k, u, hk, rfl, rfl, HU, hB2⟩ := hrel
          have hus : u.size ≤ 200000 := by
            have h1 := textS_length (x.take k)
            have h2 := HBL.out.1
            have h3 : (x.take k).length ≤ 1000 := by rw [List.length_take]; omega
            rw [HU.out.size, List.length_append]
            omega
          have g2 := (hB2.cell (p := ⟨b, of + i, none⟩) hb).trans g1
          by_cases hlt2 : k < x.length
          · obtain ⟨v, hv⟩ : ∃ v, x[k]?.getD 0 = v := ⟨_, rfl⟩
            have gv := (hB2.cell (p := ⟨b2, o2 + k, none⟩) hb2).trans (hcv k hlt2)
            rw [hv] at gv
            have hvr : 0 ≤ v ∧ v ≤ 99 := HX.out.2.2 v (by rw [← hv, List.getElem?_eq_getElem hlt2]; simp)
            have hdec := decimal_ v hvr wr
            obtain ⟨y, hy⟩ : ∃ y, (⟨(dec v).toArray⟩ : ByteArray) = y := ⟨_, rfl⟩
            rw [hy] at hdec
            have hys : y.size ≤ 2 := by rw [← hy]; have := (dec_length v).2; simpa [ByteArray.size] using this
            have HY : Hid (TextIs y (dec v) ∧ x[k]?.getD 0 = v) := ⟨hy.symm, hv⟩
            clear hv hy hvr
            by_cases hk0 : k = 0
            · have HN : Hid (TextIs (u ++ y) (BS ++ textS (x.take (k + 1)))) := by
                rw [textS_succ hlt2, if_pos hk0, HY.out.2, List.nil_append]
                have := HU.out
                rw [hk0, List.take_zero] at this
                have e : textS [] = [] := rfl
                rw [e, List.append_nil] at this
                exact this.append HY.out.1
              have hkn : ¬ 0 < k := by omega
              clear hk0
              go_wp2_with fail
              refine hdec.mono ?_
              clear hdec
              rintro e w3 ⟨rfl, hB3⟩
              have HB3 : Hid (Below w.heap.size w w3) := hB2.trans (hB3.mono hB2.size)
              clear hB3
              go_wp2
              go_roundw
              case rel => exact ⟨k + 1, u ++ y, by omega, rfl, by go_num, HN.out, HB3.out⟩
              case measure => simp [intOf]; omega
            · have hkp : 0 < k := by omega
              have HN : Hid (TextIs (u ++ ⟨#[32]⟩ ++ y) (BS ++ textS (x.take (k + 1)))) := by
                rw [textS_succ hlt2, if_neg hk0, HY.out.2, ← List.append_assoc, ← List.append_assoc]
                exact (HU.out.append (rfl : TextIs ⟨#[32]⟩ [32])).append HY.out.1
              clear hk0
              go_wp2_with fail
              refine hdec.mono ?_
              clear hdec
              rintro e w3 ⟨rfl, hB3⟩
              have HB3 : Hid (Below w.heap.size w w3) := hB2.trans (hB3.mono hB2.size)
              clear hB3
              have hsz1 : (u ++ (⟨#[32]⟩ : ByteArray)).size = u.size + 1 := by rw [ByteArray.size_append]; rfl
              go_wp2
              go_roundw
              case rel => exact ⟨k + 1, u ++ (⟨#[32]⟩ : ByteArray) ++ y, by omega, rfl, by go_num, HN.out, HB3.out⟩
              case measure => simp [intOf]; omega
          · obtain rfl : k = x.length := by omega
            have HN : Hid (TextIs u (textC (c.take (i + 1)))) := by
              have := HU.out
              rw [List.take_length] at this
              rw [HBL.out.2]; exact this
            go_wp2
            go_roundw
            case rel => exact ⟨i + 1, u, by omega, rfl, by go_num, HN.out, hB2⟩
            case measure => simp [intOf]; omega
    · obtain rfl : i = c.length := by omega
      have HF : Hid (o = ⟨(textC c).toArray⟩) := by
        have := HO.out
        rw [List.take_length] at this
        exact this
      clear hcc
      go_wp2
      go_ret
      exact ⟨by rw [← HF.out]; rfl, hB⟩

end Go.Proofs.YtklagnmkfbjagaaGreatDoor
