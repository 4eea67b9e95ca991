/- What the reference's ReadComplex answers. -/
import Derived.Test.YtklagnmkfbjagaaGreatDoorReadMath
import Derived.Test.YtklagnmkfbjagaaGreatDoorFacetsIn
namespace Go.Proofs.YtklagnmkfbjagaaGreatDoor
open Go.RowKit Go.Sort Go.Maps Go.Deep

/-- Where reading byte by byte stands. -/
structure MachAt (b : List UInt8) (w : World) (M : Left) (i : Nat) (l : List (List Int)) (S : List Int) (n : Int) (d : Nat) (bg : Bool) (v4 v5 : Value) (W : World) : Prop where
  le : i ≤ b.length
  same : mach l S n d bg i (b.drop i) = M
  dig : d ≤ 2
  num : -1 ≤ n ∧ n ≤ 99
  one : 0 < d → 0 ≤ n
  nine : d = 1 → n ≤ 9
  few : l.length ≤ i
  short : ∀ x ∈ l, x.length ≤ 1000
  size : S.length + d ≤ i
  half : 2 * S.length + d ≤ i + 1
  rows : ∃ W0, OwnRows (w.heap.size + 1) W0 v4 l ∧ Below W0.heap.size W0 W ∧ w.heap.size + 1 ≤ W0.heap.size ∧ W.ownsRow W0.heap.size 3 1 v5 S.length (S.map (Value.int .i64))
  below : Below (w.heap.size + 1) (w.alloc (.cells #[.int .i64 0, .int .i64 0] 38)) W
  beg : 0 < d → bg = true

/-- What is told of a text. -/
def RefOf (L : List (List Int)) (code at_ : Int) : Option (Nat ⊕ List (List Int)) → Prop
  | none => code = 0 ∧ at_ = -1 ∧ L = []
  | some (.inl i) => code = 1 ∧ at_ = i ∧ L = []
  | some (.inr l) => (¬ (∀ x ∈ l, SetOk x) ∧ code = 4 ∧ at_ = 0 ∧ L = []) ∨ ((∀ x ∈ l, SetOk x) ∧ Over (l.map srt) ∧ code = 2 ∧ at_ = 0 ∧ L = []) ∨ ((∀ x ∈ l, SetOk x) ∧ ¬ Over (l.map srt) ∧ code = 0 ∧ at_ = -1 ∧ IsFacets (l.map srt) L ∧ L.length ≤ 1000 ∧ ∀ x ∈ L, x.length ≤ 1000)
/-- What ReadComplex answers. -/
def RefSays (b : List UInt8) (w : World) (e : Ending) (w' : World) : Prop :=
  Below w.heap.size w w' ∧ ∃ v L code at_, e = .returned (.tuple #[v, .agg #[.int .i64 code, .int .i64 at_]]) ∧ Rows w' v L ∧ RefOf L code at_ (outL b.length (mach [] [] (-1) 0 false 0 b))

theorem two_set {W : World} {R : Nat} {p q : Value} (h0 : W.cell? ⟨R, 0, none⟩ = some p) (h1 : W.cell? ⟨R, 1, none⟩ = some q) (x y : Value) : ((W.setCell ⟨R, 0, none⟩ x).setCell ⟨R, 1, none⟩ y).cell? ⟨R, 0, none⟩ = some x ∧ ((W.setCell ⟨R, 0, none⟩ x).setCell ⟨R, 1, none⟩ y).cell? ⟨R, 1, none⟩ = some y := by
  have hne : (⟨R, 0, none⟩ : Addr) ≠ ⟨R, 1, none⟩ := fun e => by cases e
  have k0 := World.cell?_setCell_same' W ⟨R, 0, none⟩ x (by rw [h0]; rfl)
  have k1 : (W.setCell ⟨R, 0, none⟩ x).cell? ⟨R, 1, none⟩ = some q := by rw [World.cell?_setCell_other W ⟨R, 0, none⟩ ⟨R, 1, none⟩ x hne]; exact h1
  exact ⟨by rw [World.cell?_setCell_other _ ⟨R, 1, none⟩ ⟨R, 0, none⟩ y hne.symm]; exact k0, World.cell?_setCell_same' _ ⟨R, 1, none⟩ y (by rw [k1]; rfl)⟩

set_option maxRecDepth 100000 in
set_option maxHeartbeats 16000000 in
theorem readc_ (CL : ClosedHolds) (b : List UInt8) (s : ByteArray) (hs : (⟨b.toArray⟩ : ByteArray) = s) (hl : b.length ≤ 1990) (w : World) :
    Calls Tryz.prog 12 #[.string s] w fun e w' => RefSays b w e w' := by
  obtain ⟨i0, hi0, hz0, hz1, hz2⟩ := info_parts Tryz.info45
  obtain ⟨j0, hj0, hy0, hy1, hy2⟩ := info_parts Tryz.info3
  have hsz := size_is hs
  have HS : Hid ((⟨b.toArray⟩ : ByteArray) = s) := hs
  have HCL : Hid ClosedHolds := CL
  obtain ⟨M, hM⟩ : ∃ M, mach [] [] (-1) 0 false 0 b = M := ⟨_, rfl⟩
  have HM : Hid (mach [] [] (-1) 0 false 0 b = M) := hM
  have hBa : Below w.heap.size w (w.alloc (.cells #[.int .i64 0, .int .i64 0] 38)) := (Below.refl _ w).alloc (Nat.le_refl _) _
  have hbox := fault_cells w (.int .i64 0) (.int .i64 0) 38
  have hfrz : (w.alloc (.cells #[.int .i64 0, .int .i64 0] 38)).frozen? ⟨w.heap.size, 0, none⟩ = false ∧ (w.alloc (.cells #[.int .i64 0, .int .i64 0] 38)).frozen? ⟨w.heap.size, 1, none⟩ = false := ⟨by simp, by simp⟩
  have HBX : Hid (∀ W, Below (w.heap.size + 1) (w.alloc (.cells #[.int .i64 0, .int .i64 0] 38)) W → (W.cell? ⟨w.heap.size, 0, none⟩ = some (.int .i64 0) ∧ W.frozen? ⟨w.heap.size, 0, none⟩ = false) ∧ (W.cell? ⟨w.heap.size, 1, none⟩ = some (.int .i64 0) ∧ W.frozen? ⟨w.heap.size, 1, none⟩ = false)) := fun W hW =>
    ⟨⟨(hW.cell (p := ⟨w.heap.size, 0, none⟩) (by simp)).trans hbox.1, (hW.frozen (p := ⟨w.heap.size, 0, none⟩) (by simp)).trans hfrz.1⟩, (hW.cell (p := ⟨w.heap.size, 1, none⟩) (by simp)).trans hbox.2, (hW.frozen (p := ⟨w.heap.size, 1, none⟩) (by simp)).trans hfrz.2⟩
  clear hs hM CL hbox hfrz
  go_enter Tryz.func12, Tryz.ntmps12
  go_wp2
  go_loopw [4, 5, 6, 7, 8, 9] (fun q4 q5 q6 q7 q8 q9 W => ∃ (i : Nat) (l : List (List Int)) (S : List Int) (n : Int) (d : Nat) (bg : Bool), q6 = .int .i64 n ∧ q7 = .int .i64 (d : Int) ∧ q8 = .bool bg ∧ q9 = .int .i64 (i : Int) ∧ MachAt b w M i l S n d bg q4 q5 W) (fun _ _ _ _ _ q9 _ => b.length - (intOf q9).toNat)
  case atStart => exact ⟨0, [], [], -1, 0, false, rfl, rfl, rfl, rfl, ⟨Nat.zero_le _, HM.out, by omega, by omega, (fun h => by omega), (fun h => by omega), Nat.le_refl _, (fun x hx => by cases hx), Nat.le_refl _, by simp, ⟨_, OwnRows.nil _ _, Below.refl _ _, by simp, World.ownsRow_nil _ _ _ _⟩, Below.refl _ _, (fun h => by omega)⟩⟩
  case round =>
    obtain ⟨i, l, S, n, d, bg, rfl, rfl, rfl, rfl, hat⟩ := hrel
    have HAT : Hid (MachAt b w M i l S n d bg u4 u5 wr) := hat
    have hil := hat.le
    have hd2 := hat.dig
    have hn1 := hat.num.1
    have hn2 := hat.num.2
    have hlf := hat.few
    have hSs := hat.size
    have hSh := hat.half
    obtain ⟨⟨hc0, hf0⟩, hc1, hf1⟩ := HBX.out wr hat.below
    clear hat
    by_cases hlt : i < b.length
    · have hks : i < s.size := by omega
      have hdr := byte_is HS.out hks
      obtain ⟨c, hc⟩ : ∃ c, s[i]'hks = c := ⟨_, rfl⟩
      rw [hc] at hdr
      have hst := HAT.out.same
      rw [hdr] at hst
      have HST : Hid (mach l S n d bg i (c :: b.drop (i + 1)) = M) := hst
      have hc8 : c.toNat < 256 := c.toNat_lt
      have hi0' : (0 : Int) ≤ (i : Int) := by omega
      clear hdr hst
      by_cases h48 : 48 ≤ c.toNat ∧ c.toNat ≤ 57
      · have hD : isD c = true := isD_iff.2 h48
        obtain ⟨h48, h57⟩ := h48
        have hdv : dv c = (c.toNat : Int) - 48 := rfl
        have hpos := HAT.out.one
        have hnin := HAT.out.nine
        have h32c : ((c.toNat : Int) != 32) = true := bne_iff_ne.2 (by omega)
        by_cases hd : d = 2
        · have hdb : ((d : Int) == 2) = true := by rw [hd]; rfl
          have HG : Hid (RefOf [] 1 (i : Int) (outL b.length M)) := by
            show RefOf _ _ _ _
            rw [← HST.out, mach]
            rw [if_pos hD, if_pos hd]
            exact ⟨rfl, rfl, rfl⟩
          clear hd hD
          cases bg with
          | false =>
            have hk := two_set hc0 hc1 (.int .i64 1) (.int .i64 (i : Int))
            have HBE : Hid (Below w.heap.size w ((wr.setCell ⟨w.heap.size, 0, none⟩ (.int .i64 1)).setCell ⟨w.heap.size, 1, none⟩ (.int .i64 (i : Int)))) := ((hBa.trans (HAT.out.below.mono (by omega))).setCell (p := ⟨w.heap.size, 0, none⟩) (Nat.le_refl _) _).setCell (p := ⟨w.heap.size, 1, none⟩) (Nat.le_refl _) _
            go_wp2
            refine bodyPost_ret (v := .tuple #[.slice none 0 0, .agg #[.int .i64 1, .int .i64 (i : Int)]]) ?_ rfl ?_
            · simp [results, Tryz.f12, go_sem, hk.1, hk.2]
            · exact ⟨HBE.out, _, [], 1, (i : Int), rfl, rows_nil _, by rw [HM.out]; exact HG.out⟩
          | true =>
            have hk := two_set hc0 hc1 (.int .i64 1) (.int .i64 (i : Int))
            have HBE : Hid (Below w.heap.size w ((wr.setCell ⟨w.heap.size, 0, none⟩ (.int .i64 1)).setCell ⟨w.heap.size, 1, none⟩ (.int .i64 (i : Int)))) := ((hBa.trans (HAT.out.below.mono (by omega))).setCell (p := ⟨w.heap.size, 0, none⟩) (Nat.le_refl _) _).setCell (p := ⟨w.heap.size, 1, none⟩) (Nat.le_refl _) _
            go_wp2
            refine bodyPost_ret (v := .tuple #[.slice none 0 0, .agg #[.int .i64 1, .int .i64 (i : Int)]]) ?_ rfl ?_
            · simp [results, Tryz.f12, go_sem, hk.1, hk.2]
            · exact ⟨HBE.out, _, [], 1, (i : Int), rfl, rows_nil _, by rw [HM.out]; exact HG.out⟩
        · have hdb : ((d : Int) == 2) = false := beq_false_of_ne (by omega)
          by_cases hd0 : d = 0
          · have hdb0 : ((d : Int) == 0) = true := by rw [hd0]; rfl
            have HV : Hid ((c.toNat : Int) - 48 = dv c) := rfl
            have HN : Hid (MachAt b w M (i + 1) l S (dv c) 1 true u4 u5 wr) := ⟨by omega, by rw [← HST.out, mach]; rw [if_pos hD, if_neg hd, if_pos hd0], by omega, by omega, (fun _ => by omega), (fun _ => by omega), by omega, HAT.out.short, by omega, by omega, HAT.out.rows, HAT.out.below, (fun _ => rfl)⟩
            clear hD hd hd0 hpos hnin hdv
            cases bg with
            | false =>
              go_wp2
              go_roundw
              case rel => exact ⟨i + 1, _, _, _, _, _, by rw [← HV.out], rfl, rfl, by go_num, HN.out⟩
              case measure => simp [intOf]; omega
            | true =>
              go_wp2
              go_roundw
              case rel => exact ⟨i + 1, _, _, _, _, _, by rw [← HV.out], rfl, rfl, by go_num, HN.out⟩
              case measure => simp [intOf]; omega
          · have hd1 : d = 1 := by omega
            have hn0 := hpos (by omega)
            have hn9 := hnin hd1
            have hdb0 : ((d : Int) == 0) = false := beq_false_of_ne (by omega)
            have HV : Hid (n * 10 + ((c.toNat : Int) - 48) = n * 10 + dv c) := rfl
            have HN : Hid (MachAt b w M (i + 1) l S (n * 10 + dv c) 2 true u4 u5 wr) := ⟨by omega, by rw [← HST.out, mach]; rw [if_pos hD, if_neg hd, if_neg hd0], by omega, by omega, (fun _ => by omega), (fun _ => by omega), by omega, HAT.out.short, by omega, by omega, HAT.out.rows, HAT.out.below, (fun _ => rfl)⟩
            clear hD hd hd0 hpos hnin hdv hd1
            cases bg with
            | false =>
              go_wp2
              go_roundw
              case rel => exact ⟨i + 1, _, _, _, _, _, by rw [← HV.out], rfl, rfl, by go_num, HN.out⟩
              case measure => simp [intOf]; omega
            | true =>
              go_wp2
              go_roundw
              case rel => exact ⟨i + 1, _, _, _, _, _, by rw [← HV.out], rfl, rfl, by go_num, HN.out⟩
              case measure => simp [intOf]; omega
      · have hD : isD c = false := by cases h : isD c; rfl; exact absurd (isD_iff.1 h) h48
        have hdg : True := trivial
        by_cases h32 : c = 32
        · have h32b : ((c.toNat : Int) == 32) = true := by rw [h32]; rfl
          have h32c : ((c.toNat : Int) != 32) = false := by rw [h32]; rfl
          have h59b : ((c.toNat : Int) == 59) = false := by rw [h32]; rfl
          have hcb : decide (48 ≤ (c.toNat : Int)) = false := by rw [h32]; rfl
          by_cases hd : 0 < d
          · have hfl : flush S n d = S ++ [n] := if_pos hd
            have hpos := HAT.out.one hd
            obtain ⟨W0, ho4, hB0, hW0, ho5⟩ := HAT.out.rows
            have hB0s := hB0.size
            have hbs : w.heap.size + 1 ≤ wr.heap.size := by have := HAT.out.below.size; simpa using this
            have HQ : Hid (mach l (S ++ [n]) n 0 bg (i + 1) (b.drop (i + 1)) = M) := by show _ = _; rw [← HST.out, mach, if_neg (by rw [hD]; simp), if_pos h32, hfl]
            clear h32 hD h48 hdg hfl
            cases bg with
            | false =>
              go_wp2_with (first
                | (at_builtin; refine wpList_append_slice rfl (.tmp 74) (.tmp 76) 45 rfl W0.heap.size 3 j0 (.int .i64 0) 8 Tryz.underlying45 hj0 hy0 hy1 hy2 rfl _ _ _ rfl (ho5.alloc _) _ [.int .i64 n] rfl (slice_one _ _ _) (by simp [Value.oneCell']) (by simp; omega) (by unfold maxLen; simp; omega) (by simp; omega) ?_; intro v5 w5 hown5 hg5 hl5; have hB5 : Below W0.heap.size W0 w5 := (hB0.alloc hB0s _).grown hg5 (by simp; omega) (fun j hj => (ho5.lt j hj).1); have hB5b : Below (w.heap.size + 1) (w.alloc (.cells #[.int .i64 0, .int .i64 0] 38)) w5 := (HAT.out.below.alloc hbs _).grown hg5 (by simp; omega) (fun j hj => Nat.le_trans hW0 (ho5.lt j hj).1); have hownS : w5.ownsRow W0.heap.size 3 1 v5 (S ++ [n]).length ((S ++ [n]).map (Value.int .i64)) := (by simpa using hown5); skip)
                | fail)
              have HN : Hid (MachAt b w M (i + 1) l (S ++ [n]) n 0 false u4 v5 w5) := ⟨by omega, HQ.out, by omega, by omega, (fun _ => by omega), (fun h => by omega), by omega, HAT.out.short, by simp; omega, by simp; omega, ⟨W0, ho4, hB5, hW0, hownS⟩, hB5b, (fun h => by omega)⟩
              clear ho5 hown5 hg5 hl5 hownS
              (try go_wp2)
              go_roundw
              case rel => exact ⟨i + 1, _, _, _, _, _, rfl, rfl, rfl, by go_num, HN.out⟩
              case measure => simp [intOf]; omega
            | true =>
              go_wp2_with (first
                | (at_builtin; refine wpList_append_slice rfl (.tmp 74) (.tmp 76) 45 rfl W0.heap.size 3 j0 (.int .i64 0) 8 Tryz.underlying45 hj0 hy0 hy1 hy2 rfl _ _ _ rfl (ho5.alloc _) _ [.int .i64 n] rfl (slice_one _ _ _) (by simp [Value.oneCell']) (by simp; omega) (by unfold maxLen; simp; omega) (by simp; omega) ?_; intro v5 w5 hown5 hg5 hl5; have hB5 : Below W0.heap.size W0 w5 := (hB0.alloc hB0s _).grown hg5 (by simp; omega) (fun j hj => (ho5.lt j hj).1); have hB5b : Below (w.heap.size + 1) (w.alloc (.cells #[.int .i64 0, .int .i64 0] 38)) w5 := (HAT.out.below.alloc hbs _).grown hg5 (by simp; omega) (fun j hj => Nat.le_trans hW0 (ho5.lt j hj).1); have hownS : w5.ownsRow W0.heap.size 3 1 v5 (S ++ [n]).length ((S ++ [n]).map (Value.int .i64)) := (by simpa using hown5); skip)
                | fail)
              have HN : Hid (MachAt b w M (i + 1) l (S ++ [n]) n 0 true u4 v5 w5) := ⟨by omega, HQ.out, by omega, by omega, (fun _ => by omega), (fun h => by omega), by omega, HAT.out.short, by simp; omega, by simp; omega, ⟨W0, ho4, hB5, hW0, hownS⟩, hB5b, (fun h => by omega)⟩
              clear ho5 hown5 hg5 hl5 hownS
              (try go_wp2)
              go_roundw
              case rel => exact ⟨i + 1, _, _, _, _, _, rfl, rfl, rfl, by go_num, HN.out⟩
              case measure => simp [intOf]; omega
          · have hd0 : d = 0 := by omega
            have hfl : flush S n d = S := if_neg hd
            have HN : Hid (MachAt b w M (i + 1) l S n d bg u4 u5 wr) := ⟨by omega, by rw [← HST.out, mach, if_neg (by rw [hD]; simp), if_pos h32, hfl, hd0], by omega, by omega, HAT.out.one, HAT.out.nine, by omega, HAT.out.short, by omega, by omega, HAT.out.rows, HAT.out.below, HAT.out.beg⟩
            clear h32 hD h48 hdg hfl hd0
            cases bg with
            | false =>
              go_wp2
              go_roundw
              case rel => exact ⟨i + 1, _, _, _, _, _, rfl, rfl, rfl, by go_num, HN.out⟩
              case measure => simp [intOf]; omega
            | true =>
              go_wp2
              go_roundw
              case rel => exact ⟨i + 1, _, _, _, _, _, rfl, rfl, rfl, by go_num, HN.out⟩
              case measure => simp [intOf]; omega
        · have h32b : ((c.toNat : Int) == 32) = false := beq_false_of_ne (fun e => h32 (UInt8.toNat_inj.1 (by have : (32 : UInt8).toNat = 32 := rfl; omega)))
          have h32c : ((c.toNat : Int) != 32) = true := by simp [bne, h32b]
          by_cases h59 : c = 59
          · have h59b : ((c.toNat : Int) == 59) = true := by rw [h59]; rfl
            have hcb : decide (48 ≤ (c.toNat : Int)) = true := by rw [h59]; rfl
            have hcb2 : decide ((c.toNat : Int) ≤ 57) = false := by rw [h59]; rfl
            obtain ⟨W0, ho4, hB0, hW0, ho5⟩ := HAT.out.rows
            have hB0s := hB0.size
            have hbs : w.heap.size + 1 ≤ wr.heap.size := by have := HAT.out.below.size; simpa using this
            by_cases hd : 0 < d
            · have hfl : flush S n d = S ++ [n] := if_pos hd
              have hpos := HAT.out.one hd
              have HQ : Hid (mach (l ++ [S ++ [n]]) [] n 0 true (i + 1) (b.drop (i + 1)) = M) := by show _ = _; rw [← HST.out, mach, if_neg (by rw [hD]; simp), if_neg h32, if_pos h59, hfl, if_neg (by simp)]
              clear h32 h59 hD h48 hdg hfl
              cases bg with
              | false =>
                go_wp2_with (first
                  | (at_builtin; refine wpList_append_slice rfl (.tmp 74) (.tmp 76) 45 rfl W0.heap.size 3 j0 (.int .i64 0) 8 Tryz.underlying45 hj0 hy0 hy1 hy2 rfl _ _ _ rfl (ho5.alloc _) _ [.int .i64 n] rfl (slice_one _ _ _) (by simp [Value.oneCell']) (by simp; omega) (by unfold maxLen; simp; omega) (by simp; omega) ?_; intro v5 w5 hown5 hg5 hl5; have hB5 : Below W0.heap.size W0 w5 := (hB0.alloc hB0s _).grown hg5 (by simp; omega) (fun j hj => (ho5.lt j hj).1); have hB5b : Below (w.heap.size + 1) (w.alloc (.cells #[.int .i64 0, .int .i64 0] 38)) w5 := (HAT.out.below.alloc hbs _).grown hg5 (by simp; omega) (fun j hj => Nat.le_trans hW0 (ho5.lt j hj).1); have hownS : w5.ownsRow W0.heap.size 3 1 v5 (S ++ [n]).length ((S ++ [n]).map (Value.int .i64)) := (by simpa using hown5); have HIS : IntsIn (fun bl => W0.heap.size ≤ bl) w5 v5 (S ++ [n]) := slice_of_owns hownS (fun bl h _ => h); obtain ⟨a5, c5, rfl, -, -⟩ := HIS.open_; have HIH : Hid (IntsIn (fun bl => W0.heap.size ≤ bl) w5 (.slice a5 (S ++ [n]).length c5) (S ++ [n])) := HIS; obtain ⟨vs, hv1, hv2⟩ := ho4.below hB5; have HV1 : Hid (w5.ownsRow (w.heap.size + 1) 45 1 u4 l.length vs) := hv1; have HV2 : Hid (∀ (k : Nat) (u : Value) (x : List Int), vs[k]? = some u → l[k]? = some x → IntsIn (fun b => w.heap.size + 1 ≤ b ∧ some b ≠ u4.ownBlock) w5 u x) := hv2; have HB4 : Hid (OwnRows (w.heap.size + 1) W0 u4 l) := ho4; have HB5b : Hid (Below (w.heap.size + 1) (w.alloc (.cells #[.int .i64 0, .int .i64 0] 38)) w5) := hB5b; have hb5s : w.heap.size + 1 ≤ w5.heap.size := (by have := hB5b.size; simpa using this); have hlen5 : (S ++ [n]).length = S.length + 1 := (by simp); clear hv2 HIS hownS hown5 hg5 hl5 ho5 hB5b; (try rw [hlen5]))
                  | (at_builtin; refine wpList_append_slice rfl (.tmp 89) (.tmp 91) 22 rfl (w.heap.size + 1) 45 i0 (.slice none 0 0) 24 Tryz.underlying22 hi0 hz0 hz1 hz2 rfl _ _ _ rfl (hv1.alloc _) _ [.slice a5 (S.length + 1) c5] rfl (slice_one _ _ _) (by simp [Value.oneCell']) (by simp; omega) (by unfold maxLen; simp; omega) (by simp; omega) ?_; intro v6 w6 hown6 hg6 hl6)
                  | fail)
                have HUU : Hid (IntsIn (fun b => w.heap.size + 1 ≤ b ∧ some b ≠ u4.ownBlock) w5 (.slice a5 (S ++ [n]).length c5) (S ++ [n])) := SliceIn.mono HIH.out (fun bl _ h => ⟨Nat.le_trans hW0 h, fun e => by have := (HB4.out.block e.symm).2; omega⟩)
                have HN : Hid (MachAt b w M (i + 1) (l ++ [S ++ [n]]) [] n 0 true v6 (.slice none 0 0) w6) := ⟨by omega, HQ.out, by omega, by omega, (fun h => by omega), (fun h => by omega), by simp; omega, (fun x hx => by rcases List.mem_append.1 hx with h | h; exact HAT.out.short x h; rw [List.mem_singleton.1 h]; simp; omega), by simp, by simp, ⟨w6, OwnRows.push HV1.out HV2.out HUU.out (by simpa using hown6) hg6 hl6, Below.refl _ _, (by have := ((HB5b.out.alloc hb5s _).grown hg6 (by simp; omega) (fun j hj => (HV1.out.lt j hj).1)).size; simpa using this), World.ownsRow_nil _ _ _ _⟩, (HB5b.out.alloc hb5s _).grown hg6 (by simp; omega) (fun j hj => (HV1.out.lt j hj).1), (fun _ => rfl)⟩
                clear hown6 hg6 hl6 hv1
                (try go_wp2)
                go_roundw
                case rel => exact ⟨i + 1, _, _, _, _, _, rfl, rfl, rfl, by go_num, HN.out⟩
                case measure => simp [intOf]; omega
              | true =>
                go_wp2_with (first
                  | (at_builtin; refine wpList_append_slice rfl (.tmp 74) (.tmp 76) 45 rfl W0.heap.size 3 j0 (.int .i64 0) 8 Tryz.underlying45 hj0 hy0 hy1 hy2 rfl _ _ _ rfl (ho5.alloc _) _ [.int .i64 n] rfl (slice_one _ _ _) (by simp [Value.oneCell']) (by simp; omega) (by unfold maxLen; simp; omega) (by simp; omega) ?_; intro v5 w5 hown5 hg5 hl5; have hB5 : Below W0.heap.size W0 w5 := (hB0.alloc hB0s _).grown hg5 (by simp; omega) (fun j hj => (ho5.lt j hj).1); have hB5b : Below (w.heap.size + 1) (w.alloc (.cells #[.int .i64 0, .int .i64 0] 38)) w5 := (HAT.out.below.alloc hbs _).grown hg5 (by simp; omega) (fun j hj => Nat.le_trans hW0 (ho5.lt j hj).1); have hownS : w5.ownsRow W0.heap.size 3 1 v5 (S ++ [n]).length ((S ++ [n]).map (Value.int .i64)) := (by simpa using hown5); have HIS : IntsIn (fun bl => W0.heap.size ≤ bl) w5 v5 (S ++ [n]) := slice_of_owns hownS (fun bl h _ => h); obtain ⟨a5, c5, rfl, -, -⟩ := HIS.open_; have HIH : Hid (IntsIn (fun bl => W0.heap.size ≤ bl) w5 (.slice a5 (S ++ [n]).length c5) (S ++ [n])) := HIS; obtain ⟨vs, hv1, hv2⟩ := ho4.below hB5; have HV1 : Hid (w5.ownsRow (w.heap.size + 1) 45 1 u4 l.length vs) := hv1; have HV2 : Hid (∀ (k : Nat) (u : Value) (x : List Int), vs[k]? = some u → l[k]? = some x → IntsIn (fun b => w.heap.size + 1 ≤ b ∧ some b ≠ u4.ownBlock) w5 u x) := hv2; have HB4 : Hid (OwnRows (w.heap.size + 1) W0 u4 l) := ho4; have HB5b : Hid (Below (w.heap.size + 1) (w.alloc (.cells #[.int .i64 0, .int .i64 0] 38)) w5) := hB5b; have hb5s : w.heap.size + 1 ≤ w5.heap.size := (by have := hB5b.size; simpa using this); have hlen5 : (S ++ [n]).length = S.length + 1 := (by simp); clear hv2 HIS hownS hown5 hg5 hl5 ho5 hB5b; (try rw [hlen5]))
                  | (at_builtin; refine wpList_append_slice rfl (.tmp 89) (.tmp 91) 22 rfl (w.heap.size + 1) 45 i0 (.slice none 0 0) 24 Tryz.underlying22 hi0 hz0 hz1 hz2 rfl _ _ _ rfl (hv1.alloc _) _ [.slice a5 (S.length + 1) c5] rfl (slice_one _ _ _) (by simp [Value.oneCell']) (by simp; omega) (by unfold maxLen; simp; omega) (by simp; omega) ?_; intro v6 w6 hown6 hg6 hl6)
                  | fail)
                have HUU : Hid (IntsIn (fun b => w.heap.size + 1 ≤ b ∧ some b ≠ u4.ownBlock) w5 (.slice a5 (S ++ [n]).length c5) (S ++ [n])) := SliceIn.mono HIH.out (fun bl _ h => ⟨Nat.le_trans hW0 h, fun e => by have := (HB4.out.block e.symm).2; omega⟩)
                have HN : Hid (MachAt b w M (i + 1) (l ++ [S ++ [n]]) [] n 0 true v6 (.slice none 0 0) w6) := ⟨by omega, HQ.out, by omega, by omega, (fun h => by omega), (fun h => by omega), by simp; omega, (fun x hx => by rcases List.mem_append.1 hx with h | h; exact HAT.out.short x h; rw [List.mem_singleton.1 h]; simp; omega), by simp, by simp, ⟨w6, OwnRows.push HV1.out HV2.out HUU.out (by simpa using hown6) hg6 hl6, Below.refl _ _, (by have := ((HB5b.out.alloc hb5s _).grown hg6 (by simp; omega) (fun j hj => (HV1.out.lt j hj).1)).size; simpa using this), World.ownsRow_nil _ _ _ _⟩, (HB5b.out.alloc hb5s _).grown hg6 (by simp; omega) (fun j hj => (HV1.out.lt j hj).1), (fun _ => rfl)⟩
                clear hown6 hg6 hl6 hv1
                (try go_wp2)
                go_roundw
                case rel => exact ⟨i + 1, _, _, _, _, _, rfl, rfl, rfl, by go_num, HN.out⟩
                case measure => simp [intOf]; omega
            · have hd0 : d = 0 := by omega
              have hfl : flush S n d = S := if_neg hd
              have HIS : IntsIn (fun bl => W0.heap.size ≤ bl) wr u5 S := slice_of_owns ho5 (fun bl h _ => h)
              obtain ⟨a5, c5, rfl, -, -⟩ := HIS.open_
              by_cases hS0 : S = []
              · have HG : Hid (RefOf [] 1 (i : Int) (outL b.length M)) := by
                  show RefOf _ _ _ _
                  rw [← HST.out, mach, if_neg (by rw [hD]; simp), if_neg h32, if_pos h59, hfl, if_pos hS0]
                  exact ⟨rfl, rfl, rfl⟩
                have hSb : ((S.length : Int) == 0) = true := by rw [hS0]; rfl
                clear h32 h59 hD h48 hdg hfl hS0 HIS ho5
                cases bg with
                | false =>
                  have hk := two_set hc0 hc1 (.int .i64 1) (.int .i64 (i : Int))
                  have HBE : Hid (Below w.heap.size w ((wr.setCell ⟨w.heap.size, 0, none⟩ (.int .i64 1)).setCell ⟨w.heap.size, 1, none⟩ (.int .i64 (i : Int)))) := ((hBa.trans (HAT.out.below.mono (by omega))).setCell (p := ⟨w.heap.size, 0, none⟩) (Nat.le_refl _) _).setCell (p := ⟨w.heap.size, 1, none⟩) (Nat.le_refl _) _
                  go_wp2
                  refine bodyPost_ret (v := .tuple #[.slice none 0 0, .agg #[.int .i64 1, .int .i64 (i : Int)]]) ?_ rfl ?_
                  · simp [results, Tryz.f12, go_sem, hk.1, hk.2]
                  · exact ⟨HBE.out, _, [], 1, (i : Int), rfl, rows_nil _, by rw [HM.out]; exact HG.out⟩
                | true =>
                  have hk := two_set hc0 hc1 (.int .i64 1) (.int .i64 (i : Int))
                  have HBE : Hid (Below w.heap.size w ((wr.setCell ⟨w.heap.size, 0, none⟩ (.int .i64 1)).setCell ⟨w.heap.size, 1, none⟩ (.int .i64 (i : Int)))) := ((hBa.trans (HAT.out.below.mono (by omega))).setCell (p := ⟨w.heap.size, 0, none⟩) (Nat.le_refl _) _).setCell (p := ⟨w.heap.size, 1, none⟩) (Nat.le_refl _) _
                  go_wp2
                  refine bodyPost_ret (v := .tuple #[.slice none 0 0, .agg #[.int .i64 1, .int .i64 (i : Int)]]) ?_ rfl ?_
                  · simp [results, Tryz.f12, go_sem, hk.1, hk.2]
                  · exact ⟨HBE.out, _, [], 1, (i : Int), rfl, rows_nil _, by rw [HM.out]; exact HG.out⟩
              · have hSb : ((S.length : Int) == 0) = false := beq_false_of_ne (by have := List.length_pos_iff.2 hS0; omega)
                have HQ : Hid (mach (l ++ [S]) [] n d true (i + 1) (b.drop (i + 1)) = M) := by
                  have h1 := HST.out
                  rw [mach, if_neg (by rw [hD]; simp), if_neg h32, if_pos h59, hfl, if_neg hS0] at h1
                  show _ = _
                  rw [hd0]; exact h1
                have HIH : Hid (IntsIn (fun bl => W0.heap.size ≤ bl) wr (.slice a5 S.length c5) S) := HIS
                obtain ⟨vs, hv1, hv2⟩ := ho4.below hB0
                have HV1 : Hid (wr.ownsRow (w.heap.size + 1) 45 1 u4 l.length vs) := hv1
                have HV2 : Hid (∀ (k : Nat) (u : Value) (x : List Int), vs[k]? = some u → l[k]? = some x → IntsIn (fun b => w.heap.size + 1 ≤ b ∧ some b ≠ u4.ownBlock) wr u x) := hv2
                have HB4 : Hid (OwnRows (w.heap.size + 1) W0 u4 l) := ho4
                have HB5b : Hid (Below (w.heap.size + 1) (w.alloc (.cells #[.int .i64 0, .int .i64 0] 38)) wr) := HAT.out.below
                have hb5s : w.heap.size + 1 ≤ wr.heap.size := hbs
                clear h32 h59 hD h48 hdg hfl hS0 HIS hv2 ho5 hd0
                cases bg with
                | false =>
                  go_wp2_with (first
                    | (at_builtin; refine wpList_append_slice rfl (.tmp 89) (.tmp 91) 22 rfl (w.heap.size + 1) 45 i0 (.slice none 0 0) 24 Tryz.underlying22 hi0 hz0 hz1 hz2 rfl _ _ _ rfl (hv1.alloc _) _ [.slice a5 S.length c5] rfl (slice_one _ _ _) (by simp [Value.oneCell']) (by simp; omega) (by unfold maxLen; simp; omega) (by simp; omega) ?_; intro v6 w6 hown6 hg6 hl6)
                    | fail)
                  have HUU : Hid (IntsIn (fun b => w.heap.size + 1 ≤ b ∧ some b ≠ u4.ownBlock) wr (.slice a5 S.length c5) (S)) := SliceIn.mono HIH.out (fun bl _ h => ⟨Nat.le_trans hW0 h, fun e => by have := (HB4.out.block e.symm).2; omega⟩)
                  have HN : Hid (MachAt b w M (i + 1) (l ++ [S]) [] n d true v6 (.slice none 0 0) w6) := ⟨by omega, HQ.out, by omega, by omega, (fun h => by omega), (fun h => by omega), by simp; omega, (fun x hx => by rcases List.mem_append.1 hx with h | h; exact HAT.out.short x h; rw [List.mem_singleton.1 h]; omega), by simp; omega, by simp; omega, ⟨w6, OwnRows.push HV1.out HV2.out HUU.out (by simpa using hown6) hg6 hl6, Below.refl _ _, (by have := ((HB5b.out.alloc hb5s _).grown hg6 (by simp; omega) (fun j hj => (HV1.out.lt j hj).1)).size; simpa using this), World.ownsRow_nil _ _ _ _⟩, (HB5b.out.alloc hb5s _).grown hg6 (by simp; omega) (fun j hj => (HV1.out.lt j hj).1), (fun _ => rfl)⟩
                  clear hown6 hg6 hl6 hv1
                  (try go_wp2)
                  go_roundw
                  case rel => exact ⟨i + 1, _, _, _, _, _, rfl, rfl, rfl, by go_num, HN.out⟩
                  case measure => simp [intOf]; omega
                | true =>
                  go_wp2_with (first
                    | (at_builtin; refine wpList_append_slice rfl (.tmp 89) (.tmp 91) 22 rfl (w.heap.size + 1) 45 i0 (.slice none 0 0) 24 Tryz.underlying22 hi0 hz0 hz1 hz2 rfl _ _ _ rfl (hv1.alloc _) _ [.slice a5 S.length c5] rfl (slice_one _ _ _) (by simp [Value.oneCell']) (by simp; omega) (by unfold maxLen; simp; omega) (by simp; omega) ?_; intro v6 w6 hown6 hg6 hl6)
                    | fail)
                  have HUU : Hid (IntsIn (fun b => w.heap.size + 1 ≤ b ∧ some b ≠ u4.ownBlock) wr (.slice a5 S.length c5) (S)) := SliceIn.mono HIH.out (fun bl _ h => ⟨Nat.le_trans hW0 h, fun e => by have := (HB4.out.block e.symm).2; omega⟩)
                  have HN : Hid (MachAt b w M (i + 1) (l ++ [S]) [] n d true v6 (.slice none 0 0) w6) := ⟨by omega, HQ.out, by omega, by omega, (fun h => by omega), (fun h => by omega), by simp; omega, (fun x hx => by rcases List.mem_append.1 hx with h | h; exact HAT.out.short x h; rw [List.mem_singleton.1 h]; omega), by simp; omega, by simp; omega, ⟨w6, OwnRows.push HV1.out HV2.out HUU.out (by simpa using hown6) hg6 hl6, Below.refl _ _, (by have := ((HB5b.out.alloc hb5s _).grown hg6 (by simp; omega) (fun j hj => (HV1.out.lt j hj).1)).size; simpa using this), World.ownsRow_nil _ _ _ _⟩, (HB5b.out.alloc hb5s _).grown hg6 (by simp; omega) (fun j hj => (HV1.out.lt j hj).1), (fun _ => rfl)⟩
                  clear hown6 hg6 hl6 hv1
                  (try go_wp2)
                  go_roundw
                  case rel => exact ⟨i + 1, _, _, _, _, _, rfl, rfl, rfl, by go_num, HN.out⟩
                  case measure => simp [intOf]; omega
          · have h59b : ((c.toNat : Int) == 59) = false := beq_false_of_ne (fun e => h59 (UInt8.toNat_inj.1 (by have : (59 : UInt8).toNat = 59 := rfl; omega)))
            have hcase : ¬ 48 ≤ c.toNat ∨ 57 < c.toNat := by omega
            have HG : Hid (RefOf [] 1 (i : Int) (outL b.length M)) := by
              show RefOf _ _ _ _
              rw [← HST.out, mach]
              rw [if_neg (by rw [hD]; simp), if_neg h32, if_neg h59]
              exact ⟨rfl, rfl, rfl⟩
            clear h32 h59 hD h48 hdg
            rcases hcase with h | h
            · have hcb : decide (48 ≤ (c.toNat : Int)) = false := decide_eq_false (by omega)
              cases bg with
              | false =>
                have hk := two_set hc0 hc1 (.int .i64 1) (.int .i64 (i : Int))
                have HBE : Hid (Below w.heap.size w ((wr.setCell ⟨w.heap.size, 0, none⟩ (.int .i64 1)).setCell ⟨w.heap.size, 1, none⟩ (.int .i64 (i : Int)))) := ((hBa.trans (HAT.out.below.mono (by omega))).setCell (p := ⟨w.heap.size, 0, none⟩) (Nat.le_refl _) _).setCell (p := ⟨w.heap.size, 1, none⟩) (Nat.le_refl _) _
                go_wp2
                refine bodyPost_ret (v := .tuple #[.slice none 0 0, .agg #[.int .i64 1, .int .i64 (i : Int)]]) ?_ rfl ?_
                · simp [results, Tryz.f12, go_sem, hk.1, hk.2]
                · exact ⟨HBE.out, _, [], 1, (i : Int), rfl, rows_nil _, by rw [HM.out]; exact HG.out⟩
              | true =>
                have hk := two_set hc0 hc1 (.int .i64 1) (.int .i64 (i : Int))
                have HBE : Hid (Below w.heap.size w ((wr.setCell ⟨w.heap.size, 0, none⟩ (.int .i64 1)).setCell ⟨w.heap.size, 1, none⟩ (.int .i64 (i : Int)))) := ((hBa.trans (HAT.out.below.mono (by omega))).setCell (p := ⟨w.heap.size, 0, none⟩) (Nat.le_refl _) _).setCell (p := ⟨w.heap.size, 1, none⟩) (Nat.le_refl _) _
                go_wp2
                refine bodyPost_ret (v := .tuple #[.slice none 0 0, .agg #[.int .i64 1, .int .i64 (i : Int)]]) ?_ rfl ?_
                · simp [results, Tryz.f12, go_sem, hk.1, hk.2]
                · exact ⟨HBE.out, _, [], 1, (i : Int), rfl, rows_nil _, by rw [HM.out]; exact HG.out⟩
            · have hcb2 : decide ((c.toNat : Int) ≤ 57) = false := decide_eq_false (by omega)
              cases bg with
              | false =>
                have hk := two_set hc0 hc1 (.int .i64 1) (.int .i64 (i : Int))
                have HBE : Hid (Below w.heap.size w ((wr.setCell ⟨w.heap.size, 0, none⟩ (.int .i64 1)).setCell ⟨w.heap.size, 1, none⟩ (.int .i64 (i : Int)))) := ((hBa.trans (HAT.out.below.mono (by omega))).setCell (p := ⟨w.heap.size, 0, none⟩) (Nat.le_refl _) _).setCell (p := ⟨w.heap.size, 1, none⟩) (Nat.le_refl _) _
                go_wp2
                refine bodyPost_ret (v := .tuple #[.slice none 0 0, .agg #[.int .i64 1, .int .i64 (i : Int)]]) ?_ rfl ?_
                · simp [results, Tryz.f12, go_sem, hk.1, hk.2]
                · exact ⟨HBE.out, _, [], 1, (i : Int), rfl, rows_nil _, by rw [HM.out]; exact HG.out⟩
              | true =>
                have hk := two_set hc0 hc1 (.int .i64 1) (.int .i64 (i : Int))
                have HBE : Hid (Below w.heap.size w ((wr.setCell ⟨w.heap.size, 0, none⟩ (.int .i64 1)).setCell ⟨w.heap.size, 1, none⟩ (.int .i64 (i : Int)))) := ((hBa.trans (HAT.out.below.mono (by omega))).setCell (p := ⟨w.heap.size, 0, none⟩) (Nat.le_refl _) _).setCell (p := ⟨w.heap.size, 1, none⟩) (Nat.le_refl _) _
                go_wp2
                refine bodyPost_ret (v := .tuple #[.slice none 0 0, .agg #[.int .i64 1, .int .i64 (i : Int)]]) ?_ rfl ?_
                · simp [results, Tryz.f12, go_sem, hk.1, hk.2]
                · exact ⟨HBE.out, _, [], 1, (i : Int), rfl, rows_nil _, by rw [HM.out]; exact HG.out⟩
    · obtain rfl : i = b.length := by omega
      have hst := HAT.out.same
      rw [List.drop_length, mach] at hst
      have HST : Hid (Left.fin l (flush S n d) bg = M) := hst
      clear hst
      have hi0' : (0 : Int) ≤ (b.length : Int) := by omega
      obtain ⟨W0, ho4, hB0, hW0, ho5⟩ := HAT.out.rows
      have hB0s := hB0.size
      have hbs : w.heap.size + 1 ≤ wr.heap.size := by have := HAT.out.below.size; simpa using this
      by_cases hd : 0 < d
      · have hfl : flush S n d = S ++ [n] := if_pos hd
        have hpos := HAT.out.one hd
        cases bg with
        | false => exact absurd (HAT.out.beg hd) (by simp)
        | true =>
          have HLS : Hid (some (.inr (l ++ [S ++ [n]])) = outL b.length M) := by
            show _ = _
            rw [← HST.out, hfl]
            simp [outL]
          clear hfl
          go_wp2_with (first
            | (at_builtin; refine wpList_append_slice rfl (.tmp 95) (.tmp 97) 45 rfl W0.heap.size 3 j0 (.int .i64 0) 8 Tryz.underlying45 hj0 hy0 hy1 hy2 rfl _ _ _ rfl (ho5.alloc _) _ [.int .i64 n] rfl (slice_one _ _ _) (by simp [Value.oneCell']) (by simp; omega) (by unfold maxLen; simp; omega) (by simp; omega) ?_; intro v5 w5 hown5 hg5 hl5; have hB5 : Below W0.heap.size W0 w5 := (hB0.alloc hB0s _).grown hg5 (by simp; omega) (fun j hj => (ho5.lt j hj).1); have hB5b : Below (w.heap.size + 1) (w.alloc (.cells #[.int .i64 0, .int .i64 0] 38)) w5 := (HAT.out.below.alloc hbs _).grown hg5 (by simp; omega) (fun j hj => Nat.le_trans hW0 (ho5.lt j hj).1); have hownS : w5.ownsRow W0.heap.size 3 1 v5 (S ++ [n]).length ((S ++ [n]).map (Value.int .i64)) := (by simpa using hown5); have HIS : IntsIn (fun bl => W0.heap.size ≤ bl) w5 v5 (S ++ [n]) := slice_of_owns hownS (fun bl h _ => h); obtain ⟨a5, c5, rfl, -, -⟩ := HIS.open_; have HIH : Hid (IntsIn (fun bl => W0.heap.size ≤ bl) w5 (.slice a5 (S ++ [n]).length c5) (S ++ [n])) := HIS; obtain ⟨vs, hv1, hv2⟩ := ho4.below hB5; have HV1 : Hid (w5.ownsRow (w.heap.size + 1) 45 1 u4 l.length vs) := hv1; have HV2 : Hid (∀ (k : Nat) (u : Value) (x : List Int), vs[k]? = some u → l[k]? = some x → IntsIn (fun b => w.heap.size + 1 ≤ b ∧ some b ≠ u4.ownBlock) w5 u x) := hv2; have HB4 : Hid (OwnRows (w.heap.size + 1) W0 u4 l) := ho4; have HB5b : Hid (Below (w.heap.size + 1) (w.alloc (.cells #[.int .i64 0, .int .i64 0] 38)) w5) := hB5b; have hb5s : w.heap.size + 1 ≤ w5.heap.size := (by have := hB5b.size; simpa using this); have hlen5 : (S ++ [n]).length = S.length + 1 := (by simp); clear hv2 HIS hownS hown5 hg5 hl5 ho5 hB5b; (try rw [hlen5]))
            | (at_builtin; refine wpList_append_slice rfl (.tmp 109) (.tmp 111) 22 rfl (w.heap.size + 1) 45 i0 (.slice none 0 0) 24 Tryz.underlying22 hi0 hz0 hz1 hz2 rfl _ _ _ rfl (hv1.alloc _) _ [.slice a5 (S.length + 1) c5] rfl (slice_one _ _ _) (by simp [Value.oneCell']) (by simp; omega) (by unfold maxLen; simp; omega) (by simp; omega) ?_; intro v6 w6 hown6 hg6 hl6)
            | fail)
          have HUU : Hid (IntsIn (fun b => w.heap.size + 1 ≤ b ∧ some b ≠ u4.ownBlock) w5 (.slice a5 (S ++ [n]).length c5) (S ++ [n])) := SliceIn.mono HIH.out (fun bl _ h => ⟨Nat.le_trans hW0 h, fun e => by have := (HB4.out.block e.symm).2; omega⟩)
          have HR6 : Hid (OwnRows (w.heap.size + 1) w6 v6 (l ++ [S ++ [n]])) := OwnRows.push HV1.out HV2.out HUU.out (by simpa using hown6) hg6 hl6
          have HB6 : Hid (Below (w.heap.size + 1) (w.alloc (.cells #[.int .i64 0, .int .i64 0] 38)) w6) := (HB5b.out.alloc hb5s _).grown hg6 (by simp; omega) (fun j hj => (HV1.out.lt j hj).1)
          have HSH : Hid (∀ x ∈ l ++ [S ++ [n]], x.length ≤ 1000) := fun x hx => by
            rcases List.mem_append.1 hx with h | h
            · exact HAT.out.short x h
            · rw [List.mem_singleton.1 h]; simp; omega
          have hma := made_in HCL.out v6 (l ++ [S ++ [n]]) w6 HR6.out.rows (by simp; omega) HSH.out
          have hb6s : w.heap.size + 1 ≤ w6.heap.size := by have := HB6.out.size; simpa using this
          clear hown6 hg6 hl6 hv1 hc0 hf0 hc1 hf1
          go_wp2_with fail
          refine hma.mono ?_
          clear hma
          rintro e w7 ⟨hB7, hcase⟩
          have HB7 : Hid (Below (w.heap.size + 1) (w.alloc (.cells #[.int .i64 0, .int .i64 0] 38)) w7) := HB6.out.trans (hB7.mono hb6s)
          obtain ⟨⟨hc0, hf0⟩, hc1, hf1⟩ := HBX.out w7 HB7.out
          clear hB7
          rcases hcase with ⟨hno, rfl⟩ | ⟨hok, hov, rfl⟩ | ⟨hok, hov, v7, all7, rfl, hra, hal, h6⟩
          · have HG : Hid (RefOf [] 4 0 (outL b.length M)) := by
              show RefOf _ _ _ _
              rw [← HLS.out]
              exact .inl ⟨hno, rfl, rfl, rfl⟩
            clear hno
            have hk := two_set hc0 hc1 (.int .i64 4) (.int .i64 0)
            have HBE : Hid (Below w.heap.size w ((w7.setCell ⟨w.heap.size, 0, none⟩ (.int .i64 4)).setCell ⟨w.heap.size, 1, none⟩ (.int .i64 0))) := ((hBa.trans (HB7.out.mono (by omega))).setCell (p := ⟨w.heap.size, 0, none⟩) (Nat.le_refl _) _).setCell (p := ⟨w.heap.size, 1, none⟩) (Nat.le_refl _) _
            go_wp2
            refine bodyPost_ret (v := .tuple #[.slice none 0 0, .agg #[.int .i64 4, .int .i64 0]]) ?_ rfl ?_
            · simp [results, Tryz.f12, go_sem, hk.1, hk.2]
            · exact ⟨HBE.out, _, [], 4, 0, rfl, rows_nil _, by rw [HM.out]; exact HG.out⟩
          · have HG : Hid (RefOf [] 2 0 (outL b.length M)) := by
              show RefOf _ _ _ _
              rw [← HLS.out]
              exact .inr (.inl ⟨hok, hov, rfl, rfl, rfl⟩)
            clear hok hov
            have hk := two_set hc0 hc1 (.int .i64 2) (.int .i64 0)
            have HBE : Hid (Below w.heap.size w ((w7.setCell ⟨w.heap.size, 0, none⟩ (.int .i64 2)).setCell ⟨w.heap.size, 1, none⟩ (.int .i64 0))) := ((hBa.trans (HB7.out.mono (by omega))).setCell (p := ⟨w.heap.size, 0, none⟩) (Nat.le_refl _) _).setCell (p := ⟨w.heap.size, 1, none⟩) (Nat.le_refl _) _
            go_wp2
            refine bodyPost_ret (v := .tuple #[.slice none 0 0, .agg #[.int .i64 2, .int .i64 0]]) ?_ rfl ?_
            · simp [results, Tryz.f12, go_sem, hk.1, hk.2]
            · exact ⟨HBE.out, _, [], 2, 0, rfl, rows_nil _, by rw [HM.out]; exact HG.out⟩
          · have hrr : ∀ t ∈ (l ++ [S ++ [n]]).map srt, Rising t := fun t ht => by obtain ⟨x, hx, rfl⟩ := List.mem_map.1 ht; exact srt_rising (hok x hx).2.1
            have hsh := all_short hal hov
            have HG : Hid (RefOf (facetsI all7) 0 (-1) (outL b.length M)) := by
              show RefOf _ _ _ _
              rw [← HLS.out]
              refine .inr (.inr ⟨hok, hov, rfl, rfl, facets_made hrr hal, ?_, fun x hx => ?_⟩)
              · have : (facetsI all7).length ≤ all7.length := List.length_filter_le _ _
                omega
              · have := hsh x (List.mem_filter.1 hx).1; omega
            obtain ⟨a7, c7, rfl, -, -⟩ := hra.open_
            obtain ⟨L7, hL7⟩ : ∃ L7, facetsI all7 = L7 := ⟨_, rfl⟩
            rw [hL7] at hra HG
            rw [hL7]
            have HRW : Hid (Rows ((w7.setCell ⟨w.heap.size, 0, none⟩ (.int .i64 0)).setCell ⟨w.heap.size, 1, none⟩ (.int .i64 (-1))) (.slice a7 L7.length c7) L7) := (hra.keep (fun bl hbl hS => by
              rw [blk_setCell_other _ _ _ _ (show bl ≠ w.heap.size by omega), blk_setCell_other _ _ _ _ (show bl ≠ w.heap.size by omega)])).any
            have hk := two_set hc0 hc1 (.int .i64 0) (.int .i64 (-1))
            have HBE : Hid (Below w.heap.size w ((w7.setCell ⟨w.heap.size, 0, none⟩ (.int .i64 0)).setCell ⟨w.heap.size, 1, none⟩ (.int .i64 (-1)))) := ((hBa.trans (HB7.out.mono (by omega))).setCell (p := ⟨w.heap.size, 0, none⟩) (Nat.le_refl _) _).setCell (p := ⟨w.heap.size, 1, none⟩) (Nat.le_refl _) _
            clear hok hov hra hal hsh hrr hL7 h6
            go_wp2
            refine bodyPost_ret (v := .tuple #[.slice a7 L7.length c7, .agg #[.int .i64 0, .int .i64 (-1)]]) ?_ rfl ?_
            · simp [results, Tryz.f12, go_sem, hk.1, hk.2]
            · exact ⟨HBE.out, _, L7, 0, -1, rfl, HRW.out, by rw [HM.out]; exact HG.out⟩
      · have hd0 : d = 0 := by omega
        have hfl : flush S n d = S := if_neg hd
        have HIS : IntsIn (fun bl => W0.heap.size ≤ bl) wr u5 S := slice_of_owns ho5 (fun bl h _ => h)
        obtain ⟨a5, c5, rfl, -, -⟩ := HIS.open_
        cases bg with
        | false =>
          have HG : Hid (RefOf [] 0 (-1) (outL b.length M)) := by
            show RefOf _ _ _ _
            rw [← HST.out]
            exact ⟨rfl, rfl, rfl⟩
          clear hfl HIS ho5
          have hk := two_set hc0 hc1 (.int .i64 0) (.int .i64 (-1))
          have HBE : Hid (Below w.heap.size w ((wr.setCell ⟨w.heap.size, 0, none⟩ (.int .i64 0)).setCell ⟨w.heap.size, 1, none⟩ (.int .i64 (-1)))) := ((hBa.trans (HAT.out.below.mono (by omega))).setCell (p := ⟨w.heap.size, 0, none⟩) (Nat.le_refl _) _).setCell (p := ⟨w.heap.size, 1, none⟩) (Nat.le_refl _) _
          go_wp2
          refine bodyPost_ret (v := .tuple #[.slice none 0 0, .agg #[.int .i64 0, .int .i64 (-1)]]) ?_ rfl ?_
          · simp [results, Tryz.f12, go_sem, hk.1, hk.2]
          · exact ⟨HBE.out, _, [], 0, (-1), rfl, rows_nil _, by rw [HM.out]; exact HG.out⟩
        | true =>
          by_cases hS0 : S = []
          · have HG : Hid (RefOf [] 1 (b.length : Int) (outL b.length M)) := by
              show RefOf _ _ _ _
              rw [← HST.out, hfl, hS0]
              exact ⟨rfl, rfl, rfl⟩
            have hSb : ((S.length : Int) == 0) = true := by rw [hS0]; rfl
            clear hfl HIS ho5 hS0
            have hk := two_set hc0 hc1 (.int .i64 1) (.int .i64 (b.length : Int))
            have HBE : Hid (Below w.heap.size w ((wr.setCell ⟨w.heap.size, 0, none⟩ (.int .i64 1)).setCell ⟨w.heap.size, 1, none⟩ (.int .i64 (b.length : Int)))) := ((hBa.trans (HAT.out.below.mono (by omega))).setCell (p := ⟨w.heap.size, 0, none⟩) (Nat.le_refl _) _).setCell (p := ⟨w.heap.size, 1, none⟩) (Nat.le_refl _) _
            go_wp2
            refine bodyPost_ret (v := .tuple #[.slice none 0 0, .agg #[.int .i64 1, .int .i64 (b.length : Int)]]) ?_ rfl ?_
            · simp [results, Tryz.f12, go_sem, hk.1, hk.2]
            · exact ⟨HBE.out, _, [], 1, (b.length : Int), rfl, rows_nil _, by rw [HM.out]; exact HG.out⟩
          · have hSb : ((S.length : Int) == 0) = false := beq_false_of_ne (by have := List.length_pos_iff.2 hS0; omega)
            have HLS : Hid (some (.inr (l ++ [S])) = outL b.length M) := by
              show _ = _
              rw [← HST.out, hfl]
              simp [outL, hS0]
            have HIH : Hid (IntsIn (fun bl => W0.heap.size ≤ bl) wr (.slice a5 S.length c5) S) := HIS
            obtain ⟨vs, hv1, hv2⟩ := ho4.below hB0
            have HV1 : Hid (wr.ownsRow (w.heap.size + 1) 45 1 u4 l.length vs) := hv1
            have HV2 : Hid (∀ (k : Nat) (u : Value) (x : List Int), vs[k]? = some u → l[k]? = some x → IntsIn (fun b => w.heap.size + 1 ≤ b ∧ some b ≠ u4.ownBlock) wr u x) := hv2
            have HB4 : Hid (OwnRows (w.heap.size + 1) W0 u4 l) := ho4
            have HB5b : Hid (Below (w.heap.size + 1) (w.alloc (.cells #[.int .i64 0, .int .i64 0] 38)) wr) := HAT.out.below
            have hb5s : w.heap.size + 1 ≤ wr.heap.size := hbs
            clear hfl HIS ho5 hS0 hv2
            go_wp2_with (first
              | (at_builtin; refine wpList_append_slice rfl (.tmp 109) (.tmp 111) 22 rfl (w.heap.size + 1) 45 i0 (.slice none 0 0) 24 Tryz.underlying22 hi0 hz0 hz1 hz2 rfl _ _ _ rfl (hv1.alloc _) _ [.slice a5 S.length c5] rfl (slice_one _ _ _) (by simp [Value.oneCell']) (by simp; omega) (by unfold maxLen; simp; omega) (by simp; omega) ?_; intro v6 w6 hown6 hg6 hl6)
              | fail)
            have HUU : Hid (IntsIn (fun b => w.heap.size + 1 ≤ b ∧ some b ≠ u4.ownBlock) wr (.slice a5 S.length c5) (S)) := SliceIn.mono HIH.out (fun bl _ h => ⟨Nat.le_trans hW0 h, fun e => by have := (HB4.out.block e.symm).2; omega⟩)
            have HR6 : Hid (OwnRows (w.heap.size + 1) w6 v6 (l ++ [S])) := OwnRows.push HV1.out HV2.out HUU.out (by simpa using hown6) hg6 hl6
            have HB6 : Hid (Below (w.heap.size + 1) (w.alloc (.cells #[.int .i64 0, .int .i64 0] 38)) w6) := (HB5b.out.alloc hb5s _).grown hg6 (by simp; omega) (fun j hj => (HV1.out.lt j hj).1)
            have HSH : Hid (∀ x ∈ l ++ [S], x.length ≤ 1000) := fun x hx => by
              rcases List.mem_append.1 hx with h | h
              · exact HAT.out.short x h
              · rw [List.mem_singleton.1 h]; omega
            have hma := made_in HCL.out v6 (l ++ [S]) w6 HR6.out.rows (by simp; omega) HSH.out
            have hb6s : w.heap.size + 1 ≤ w6.heap.size := by have := HB6.out.size; simpa using this
            clear hown6 hg6 hl6 hv1 hc0 hf0 hc1 hf1
            go_wp2_with fail
            refine hma.mono ?_
            clear hma
            rintro e w7 ⟨hB7, hcase⟩
            have HB7 : Hid (Below (w.heap.size + 1) (w.alloc (.cells #[.int .i64 0, .int .i64 0] 38)) w7) := HB6.out.trans (hB7.mono hb6s)
            obtain ⟨⟨hc0, hf0⟩, hc1, hf1⟩ := HBX.out w7 HB7.out
            clear hB7
            rcases hcase with ⟨hno, rfl⟩ | ⟨hok, hov, rfl⟩ | ⟨hok, hov, v7, all7, rfl, hra, hal, h6⟩
            · have HG : Hid (RefOf [] 4 0 (outL b.length M)) := by
                show RefOf _ _ _ _
                rw [← HLS.out]
                exact .inl ⟨hno, rfl, rfl, rfl⟩
              clear hno
              have hk := two_set hc0 hc1 (.int .i64 4) (.int .i64 0)
              have HBE : Hid (Below w.heap.size w ((w7.setCell ⟨w.heap.size, 0, none⟩ (.int .i64 4)).setCell ⟨w.heap.size, 1, none⟩ (.int .i64 0))) := ((hBa.trans (HB7.out.mono (by omega))).setCell (p := ⟨w.heap.size, 0, none⟩) (Nat.le_refl _) _).setCell (p := ⟨w.heap.size, 1, none⟩) (Nat.le_refl _) _
              go_wp2
              refine bodyPost_ret (v := .tuple #[.slice none 0 0, .agg #[.int .i64 4, .int .i64 0]]) ?_ rfl ?_
              · simp [results, Tryz.f12, go_sem, hk.1, hk.2]
              · exact ⟨HBE.out, _, [], 4, 0, rfl, rows_nil _, by rw [HM.out]; exact HG.out⟩
            · have HG : Hid (RefOf [] 2 0 (outL b.length M)) := by
                show RefOf _ _ _ _
                rw [← HLS.out]
                exact .inr (.inl ⟨hok, hov, rfl, rfl, rfl⟩)
              clear hok hov
              have hk := two_set hc0 hc1 (.int .i64 2) (.int .i64 0)
              have HBE : Hid (Below w.heap.size w ((w7.setCell ⟨w.heap.size, 0, none⟩ (.int .i64 2)).setCell ⟨w.heap.size, 1, none⟩ (.int .i64 0))) := ((hBa.trans (HB7.out.mono (by omega))).setCell (p := ⟨w.heap.size, 0, none⟩) (Nat.le_refl _) _).setCell (p := ⟨w.heap.size, 1, none⟩) (Nat.le_refl _) _
              go_wp2
              refine bodyPost_ret (v := .tuple #[.slice none 0 0, .agg #[.int .i64 2, .int .i64 0]]) ?_ rfl ?_
              · simp [results, Tryz.f12, go_sem, hk.1, hk.2]
              · exact ⟨HBE.out, _, [], 2, 0, rfl, rows_nil _, by rw [HM.out]; exact HG.out⟩
            · have hrr : ∀ t ∈ (l ++ [S]).map srt, Rising t := fun t ht => by obtain ⟨x, hx, rfl⟩ := List.mem_map.1 ht; exact srt_rising (hok x hx).2.1
              have hsh := all_short hal hov
              have HG : Hid (RefOf (facetsI all7) 0 (-1) (outL b.length M)) := by
                show RefOf _ _ _ _
                rw [← HLS.out]
                refine .inr (.inr ⟨hok, hov, rfl, rfl, facets_made hrr hal, ?_, fun x hx => ?_⟩)
                · have : (facetsI all7).length ≤ all7.length := List.length_filter_le _ _
                  omega
                · have := hsh x (List.mem_filter.1 hx).1; omega
              obtain ⟨a7, c7, rfl, -, -⟩ := hra.open_
              obtain ⟨L7, hL7⟩ : ∃ L7, facetsI all7 = L7 := ⟨_, rfl⟩
              rw [hL7] at hra HG
              rw [hL7]
              have HRW : Hid (Rows ((w7.setCell ⟨w.heap.size, 0, none⟩ (.int .i64 0)).setCell ⟨w.heap.size, 1, none⟩ (.int .i64 (-1))) (.slice a7 L7.length c7) L7) := (hra.keep (fun bl hbl hS => by
                rw [blk_setCell_other _ _ _ _ (show bl ≠ w.heap.size by omega), blk_setCell_other _ _ _ _ (show bl ≠ w.heap.size by omega)])).any
              have hk := two_set hc0 hc1 (.int .i64 0) (.int .i64 (-1))
              have HBE : Hid (Below w.heap.size w ((w7.setCell ⟨w.heap.size, 0, none⟩ (.int .i64 0)).setCell ⟨w.heap.size, 1, none⟩ (.int .i64 (-1)))) := ((hBa.trans (HB7.out.mono (by omega))).setCell (p := ⟨w.heap.size, 0, none⟩) (Nat.le_refl _) _).setCell (p := ⟨w.heap.size, 1, none⟩) (Nat.le_refl _) _
              clear hok hov hra hal hsh hrr hL7 h6
              go_wp2
              refine bodyPost_ret (v := .tuple #[.slice a7 L7.length c7, .agg #[.int .i64 0, .int .i64 (-1)]]) ?_ rfl ?_
              · simp [results, Tryz.f12, go_sem, hk.1, hk.2]
              · exact ⟨HBE.out, _, L7, 0, -1, rfl, HRW.out, by rw [HM.out]; exact HG.out⟩

end Go.Proofs.YtklagnmkfbjagaaGreatDoor
