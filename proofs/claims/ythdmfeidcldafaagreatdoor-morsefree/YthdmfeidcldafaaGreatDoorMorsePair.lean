/- What cut and cutPair do. What cutPair does. -/
import Derived.Test.YthdmfeidcldafaaGreatDoorMorseRest
namespace Go.Proofs.YthdmfeidcldafaaGreatDoor
open Go.RowKit Go.Sort

/-- How many are over a face while the sides of the face that goes are gone through. -/
def cntS (L : List (List Int)) (left : Nat → Bool) (i j a : Nat) : Int := ((ovL L left a).length : Int) - (if a ∈ (sidD L allD i).take j then 1 else 0)

theorem sid_nodup (L : List (List Int)) (i : Nat) : (sidD L allD i).Nodup := (List.nodup_range).filter _
theorem cntS_step {L : List (List Int)} {left : Nat → Bool} {i j x : Nat} (hx : (sidD L allD i)[j]? = some x) (a : Nat) : (if a = x then cntS L left i j x - 1 else cntS L left i j a) = cntS L left i (j + 1) a := by
  have hj : j < (sidD L allD i).length := (List.getElem?_eq_some_iff.1 hx).1
  have ht : (sidD L allD i).take (j + 1) = (sidD L allD i).take j ++ [x] := by rw [List.take_add_one, hx]; rfl
  have hno : x ∉ (sidD L allD i).take j := fun h => by
    have hn := (List.take_sublist (j + 1) (sidD L allD i)).nodup (sid_nodup L i)
    rw [ht] at hn
    exact (List.nodup_append.1 hn).2.2 x h x (.head _) rfl
  unfold cntS
  rw [ht]
  by_cases e : a = x
  · subst e
    rw [if_pos rfl, if_neg hno, if_pos (List.mem_append.2 (.inr (.head _)))]
    omega
  · rw [if_neg e]
    congr 1
    have : a ∈ (sidD L allD i).take j ++ [x] ↔ a ∈ (sidD L allD i).take j := by
      rw [List.mem_append, List.mem_singleton]
      exact ⟨fun h => h.elim id fun h => absurd h e, .inl⟩
    simp only [this]
theorem cntS_end {L : List (List Int)} {left : Nat → Bool} {i a : Nat} (hi : i < L.length) (ha : a < L.length) (hl : left i = true) : cntS L left i (sidD L allD i).length a = ((ovL L (less left i) a).length : Int) := by
  unfold cntS
  rw [List.take_length, ov_less hi hl a]
  have : a ∈ sidD L allD i ↔ underB (faceAt L a) (faceAt L i) = true := by
    unfold sidD
    rw [List.mem_filter, List.mem_range, Bool.and_eq_true]
    exact ⟨fun h => h.2.1, fun h => ⟨ha, h, rfl⟩⟩
  by_cases hu : underB (faceAt L a) (faceAt L i) = true
  · rw [if_pos (this.2 hu), if_pos hu]; omega
  · rw [if_neg (fun h => hu (this.1 h)), if_neg hu]; omega

set_option maxRecDepth 100000 in
set_option maxHeartbeats 4000000 in
theorem cut_ {B : Nat} {L : List (List Int)} {ad aS ao : Option Addr} {cd cs co gl gc : Nat} {left : Nat → Bool} (i : Nat) (w : World) (h : RestAt B w L ad aS ao cd cs co gl gc left) (hL6 : L.length ≤ 600) (hi : i < L.length) (hl : left i = true) :
    Calls Tryz.prog 40 #[restV L.length ad aS ao cd cs co gl gc, .int .i64 (i : Int)] w fun e w' => e = .returned (.tuple #[]) ∧ RestAt B w' L ad aS ao cd cs co gl gc (less left i) ∧ KeepBut w w' gl gc := by
  have HEND : Hid (∀ a, a < L.length → cntS L left i (sidD L allD i).length a = ((ovL L (less left i) a).length : Int)) := fun a ha => cntS_end hi ha hl
  obtain ⟨n, hn⟩ : ∃ n, L.length = n := ⟨_, rfl⟩
  have HNN : Hid (L.length = n) := hn
  have hBa : Below w.heap.size w (w.alloc (.cells #[.slice ad n cd, .slice aS n cs, .slice ao n co, .slice (some ⟨gl, 0, none⟩) n n, .slice (some ⟨gc, 0, none⟩) n n] 61)) := (Below.refl _ w).alloc (Nat.le_refl _) _
  have hce := rest_cells w (.slice ad n cd) (.slice aS n cs) (.slice ao n co) (.slice (some ⟨gl, 0, none⟩) n n) (.slice (some ⟨gc, 0, none⟩) n n) 61
  have c1 := hce 1 _ rfl
  have c3 := hce 3 _ rfl
  have c4 := hce 4 _ rfl
  have hglw : gl < w.heap.size := h.lefts.lt
  have hgcw : gc < w.heap.size := h.counts.lt
  have HR : Hid (RestAt B w L ad aS ao cd cs co gl gc left) := h
  unfold restV
  rw [hn] at hL6 hi ⊢
  clear h hce hn
  go_enter Tryz.func40, Tryz.ntmps40
  go_upto_region 1 with fail
  obtain ⟨X, hX⟩ : ∃ X, w.alloc (.cells #[.slice ad n cd, .slice aS n cs, .slice ao n co, .slice (some ⟨gl, 0, none⟩) n n, .slice (some ⟨gc, 0, none⟩) n n] 61) = X := ⟨_, rfl⟩
  obtain ⟨xb, hxb⟩ : ∃ xb, w.heap.size = xb := ⟨_, rfl⟩
  have hxl : xb < X.heap.size := by rw [← hX, ← hxb]; simp
  rw [hX, hxb] at c1 c3 c4 hBa
  rw [hxb] at hglw hgcw
  try rw [hX]
  try rw [hxb]
  have HXB : Hid (w.heap.size = xb) := hxb
  have HRX : Hid (RestAt B X L ad aS ao cd cs co gl gc left) := HR.out.below (by rw [hxb]; exact hBa)
  have HKX : Hid (KeepBut w X gl gc) := (KeepBut.refl w gl gc).below (by rw [hxb]; exact hBa)
  have hne := HR.out.ne
  clear hX hxb HR
  have l0 := HRX.out.lefts.cell (i := i) (by rw [HNN.out]; exact hi)
  have l1 := HRX.out.lefts.frozen i
  obtain ⟨vs, ⟨a', c', ea, -, hax⟩, hvl, hvs⟩ := HRX.out.shape.sides
  rw [hvl, HNN.out] at ea hax
  cases ea
  obtain ⟨bs, os, rfl, hbB, hcx⟩ := hax (by omega)
  obtain ⟨u, hu⟩ : ∃ u, vs[i]? = some u := ⟨_, List.getElem?_eq_getElem (by rw [hvl, HNN.out]; exact hi)⟩
  have su := hcx i u hu
  have hdu := hvs i u hu
  obtain ⟨a1, p1, rfl, hd1⟩ := hdu
  obtain ⟨m, hm⟩ : ∃ m, (sidesI L i).length = m := ⟨_, rfl⟩
  have hmL : (sidD L allD i).length = m := by rw [← hm]; simp [sidesI]
  have HML : Hid ((sidD L allD i).length = m) := hmL
  rw [hm] at su
  have hd1m : 0 < m → _ := fun h0 => hd1 (by rw [hm]; exact h0)
  have hm6 : m ≤ 600 := by rw [← hmL]; refine Nat.le_trans (List.length_filter_le _ _) ?_; rw [List.length_range, HNN.out]; exact hL6
  have hbsx : bs < X.heap.size := cell_lt su
  have hbsB : bs < B := hbB
  have hbl := HRX.out.bl
  have hbc := HRX.out.bc
  have su' : (X.setCell ⟨gl, i, none⟩ (.bool false)).cell? ⟨bs, os + i, none⟩ = some (.slice a1 m p1) := (World.cell?_setCell_other X _ _ _ (addr_ne (.inl (by omega)))).trans su
  have c1' : (X.setCell ⟨gl, i, none⟩ (.bool false)).cell? ⟨xb, 1, none⟩ = some (.slice (some ⟨bs, os, none⟩) n cs) := (World.cell?_setCell_other X _ _ _ (addr_ne (.inl (by omega)))).trans c1
  have HD1 : Hid (0 < m → ∃ g o, a1 = some ⟨g, o, none⟩ ∧ g < B ∧ g < X.heap.size ∧ ∀ k (hk : k < (sidesI L i).length), X.cell? ⟨g, o + k * 2, none⟩ = some (.int .i64 (sidesI L i)[k].1) ∧ X.cell? ⟨g, o + (k * 2 + 1), none⟩ = some (.int .i64 (sidesI L i)[k].2)) := hd1m
  have HW0 : Hid ((X.setCell ⟨gl, i, none⟩ (.bool false)).rowIs gl 4 n (fun a => .bool (less left i a)) ∧ (X.setCell ⟨gl, i, none⟩ (.bool false)).rowIs gc 3 n (fun a => .int .i64 (cntS L left i 0 a)) ∧ KeepBut X (X.setCell ⟨gl, i, none⟩ (.bool false)) gl gc) := by
    refine ⟨?_, ?_, (KeepBut.refl X gl gc).on (grown_one X ⟨gl, i, none⟩ _) (fun b e => by cases e; exact .inl rfl)⟩
    · have := (HRX.out.lefts.set i (.bool false)).congr (g := fun a => .bool (less left i a)) (fun j _ => by unfold less; split <;> rfl)
      rw [HNN.out] at this; exact this
    · have := (HRX.out.counts.setOther (a := ⟨gl, i, none⟩) (by simpa using hne.symm) (.bool false)).congr (g := fun a => .int .i64 (cntS L left i 0 a)) (fun j _ => by unfold cntS; simp)
      rw [HNN.out] at this; exact this
  clear hax hvs hcx hd1 hd1m hmL hm hu su
  go_wp2_with fail
  obtain ⟨W0, hW0⟩ : ∃ W0, X.setCell ⟨gl, i, none⟩ (.bool false) = W0 := ⟨_, rfl⟩
  rw [hW0] at HW0 su' c1'
  try rw [hW0]
  clear hW0
  go_loopw [17] (fun p W => ∃ j : Nat, j ≤ m ∧ p = .int .i64 j ∧ Hid (W.rowIs gl 4 n (fun a => .bool (less left i a)) ∧ W.rowIs gc 3 n (fun a => .int .i64 (cntS L left i j a)) ∧ KeepBut X W gl gc)) (fun p _ => m - (intOf p).toNat)
  case atStart => exact ⟨0, by omega, rfl, HW0.out⟩
  case round =>
    obtain ⟨j, hj, rfl, HJ⟩ := hrel
    by_cases hjm : j < m
    · obtain ⟨g, o, rfl, hgB, hgX, hcell⟩ := HD1.out (by omega)
      obtain ⟨x, hx⟩ : ∃ x, (sidD L allD i)[j]? = some x := ⟨_, List.getElem?_eq_getElem (by rw [HML.out]; exact hjm)⟩
      have hsl : j < (sidesI L i).length := by simp only [sidesI, List.length_map]; rw [HML.out]; exact hjm
      have hs := hcell j hsl
      have hse : (sidesI L i)[j] = sideP L i x := by
        have : (sidesI L i)[j]? = some (sideP L i x) := by unfold sidesI; rw [List.getElem?_map, hx]; rfl
        rw [List.getElem?_eq_getElem hsl] at this; exact Option.some.inj this
      rw [hse] at hs
      obtain ⟨sg1, hsg⟩ : ∃ sg1, (sideP L i x).2 = sg1 := ⟨_, rfl⟩
      rw [show (sideP L i x).1 = (x : Int) from rfl, hsg] at hs
      have hxn : x < n := by
        have := (List.mem_filter.1 (List.mem_iff_getElem?.2 ⟨j, hx⟩)).1
        rw [List.mem_range, HNN.out] at this; exact this
      have s0 := (HJ.out.2.2.cell (p := ⟨g, o + j * 2, none⟩) hgX (by simp only; omega) (by simp only; omega)).trans hs.1
      have s1 : wr.cell? ⟨g, o + j * 2 + 1, none⟩ = some (.int .i64 sg1) := (HJ.out.2.2.cell (p := ⟨g, o + (j * 2 + 1), none⟩) hgX (by simp only; omega) (by simp only; omega)).trans hs.2
      have d4 := (HJ.out.2.2.cell (p := ⟨xb, 4, none⟩) hxl (by simp only; omega) (by simp only; omega)).trans c4
      have dc := HJ.out.2.1.cell (i := x) hxn
      have df := HJ.out.2.1.frozen x
      obtain ⟨cv, hcv⟩ : ∃ cv : Int, cntS L left i j x = cv := ⟨_, rfl⟩
      have hcb : -1 ≤ cv ∧ cv ≤ 600 := by
        rw [← hcv]
        unfold cntS
        have : (ovL L left x).length ≤ 600 := by refine Nat.le_trans (List.length_filter_le _ _) ?_; rw [List.length_range, HNN.out]; exact hL6
        split <;> omega
      rw [hcv] at dc
      have HCV : Hid (cntS L left i j x = cv ∧ (sidD L allD i)[j]? = some x) := ⟨hcv, hx⟩
      have h2 := two_box wr (.int .i64 (x : Int)) (.int .i64 sg1) 106
      have hwb : ∀ o, (wr.alloc o).cell? ⟨xb, 4, none⟩ = some (.slice (some ⟨gc, 0, none⟩) n n) := fun o => (World.cell?_alloc_lt wr o ⟨xb, 4, none⟩ (by have := HJ.out.2.2.size; simp only; omega)).trans d4
      have hgcr : gc < wr.heap.size := HJ.out.2.1.lt
      have hwc : ∀ o, (wr.alloc o).cell? ⟨gc, x, none⟩ = some (.int .i64 cv) := fun o => (World.cell?_alloc_lt wr o ⟨gc, x, none⟩ hgcr).trans dc
      have hwf : ∀ o, (wr.alloc o).frozen? ⟨gc, x, none⟩ = false := fun o => (World.frozen?_of_block (Below.heap_alloc wr o gc hgcr)).trans df
      have h2a := h2.1
      have z0 : (0 : Int) ≤ (x : Int) := by omega
      have z1 : (x : Int) < (n : Int) := by omega
      have z2 : (j : Int) < (m : Int) := by omega
      clear hcell hs hse hsg hcv hx h2
      go_wp2_with fail
      go_roundw
      case rel =>
        refine ⟨j + 1, by omega, by go_num, ?_, ?_, ?_⟩
        · exact (HJ.out.1.setOther (a := ⟨gc, x, none⟩) hne _).alloc _
        · refine World.rowIs.alloc ((HJ.out.2.1.set x (.int .i64 (cv - 1))).congr (fun a _ => ?_)) _
          have := cntS_step (left := left) HCV.out.2 a
          rw [HCV.out.1] at this
          rw [← this]
          split <;> rfl
        · exact (HJ.out.2.2.on (grown_one wr ⟨gc, x, none⟩ _) (fun b e => by cases e; exact .inr (.inl rfl))).on (World.grownBy_alloc _ _ none) (fun b e => by cases e)
      case measure => simp [intOf]; omega
    · obtain rfl : j = m := by omega
      go_wp2_with fail
      refine bodyPost_end (v := .tuple #[]) ?_ rfl ⟨rfl, ⟨HRX.out.shape.kept hbl hbc HJ.out.2.2, ?_, ?_, hbl, hbc, hne⟩, HKX.out.trans HJ.out.2.2⟩
      · simp [results, Tryz.f40, go_sem]
      · rw [HNN.out]; exact HJ.out.1
      · rw [HNN.out]
        refine HJ.out.2.1.congr (fun a ha => ?_)
        rw [← HEND.out a (by rw [HNN.out]; exact ha), HML.out]

end Go.Proofs.YthdmfeidcldafaaGreatDoor

namespace Go.Proofs.YthdmfeidcldafaaGreatDoor
open Go.RowKit Go.Sort

set_option maxRecDepth 100000 in
set_option maxHeartbeats 2000000 in
theorem cut_pair {B : Nat} {L : List (List Int)} {ad aS ao : Option Addr} {cd cs co gl gc : Nat} {left : Nat → Bool} (a k : Nat) (w : World) (h : RestAt B w L ad aS ao cd cs co gl gc left) (hL6 : L.length ≤ 600) (ha : a < L.length) (hk : k < L.length) (hla : left a = true) (hlk : left k = true) (hak : a ≠ k) :
    Calls Tryz.prog 26 #[restV L.length ad aS ao cd cs co gl gc, .agg #[.int .i64 (a : Int), .int .i64 (k : Int)]] w fun e w' => e = .returned (.tuple #[]) ∧ RestAt B w' L ad aS ao cd cs co gl gc (less (less left k) a) ∧ KeepBut w w' gl gc := by
  have HR : Hid (RestAt B w L ad aS ao cd cs co gl gc left) := h
  have hglw : gl < w.heap.size := h.lefts.lt
  have hgcw : gc < w.heap.size := h.counts.lt
  have HLL : Hid (less left k a = true) := by unfold less; rw [if_neg hak]; exact hla
  have HCU : Hid (∀ (left : Nat → Bool) (i : Nat) (W : World), RestAt B W L ad aS ao cd cs co gl gc left → i < L.length → left i = true → Calls Tryz.prog 40 #[restV L.length ad aS ao cd cs co gl gc, .int .i64 (i : Int)] W fun e w' => e = .returned (.tuple #[]) ∧ RestAt B w' L ad aS ao cd cs co gl gc (less left i) ∧ KeepBut W w' gl gc) := fun left i W h1 h2 h3 => cut_ i W h1 hL6 h2 h3
  obtain ⟨n, hn⟩ : ∃ n, L.length = n := ⟨_, rfl⟩
  have hBa : Below w.heap.size w ((w.alloc (.cells #[.slice ad n cd, .slice aS n cs, .slice ao n co, .slice (some ⟨gl, 0, none⟩) n n, .slice (some ⟨gc, 0, none⟩) n n] 61)).alloc (.cells #[.int .i64 (a : Int), .int .i64 (k : Int)] 52)) := ((Below.refl _ w).alloc (Nat.le_refl _) _).alloc (by simp) _
  have hce := rest_cells w (.slice ad n cd) (.slice aS n cs) (.slice ao n co) (.slice (some ⟨gl, 0, none⟩) n n) (.slice (some ⟨gc, 0, none⟩) n n) 61
  unfold restV at HCU ⊢
  rw [hn] at HCU hL6 ha hk ⊢
  clear h hn
  go_enter Tryz.func26, Tryz.ntmps26
  go_upto_region 1 with fail
  have hpc := two_box (w.alloc (.cells #[.slice ad n cd, .slice aS n cs, .slice ao n co, .slice (some ⟨gl, 0, none⟩) n n, .slice (some ⟨gc, 0, none⟩) n n] 61)) (.int .i64 (a : Int)) (.int .i64 (k : Int)) 52
  rw [World.size_alloc] at hpc
  have hrc : ∀ j u, [Value.slice ad n cd, .slice aS n cs, .slice ao n co, .slice (some ⟨gl, 0, none⟩) n n, .slice (some ⟨gc, 0, none⟩) n n][j]? = some u → ((w.alloc (.cells #[.slice ad n cd, .slice aS n cs, .slice ao n co, .slice (some ⟨gl, 0, none⟩) n n, .slice (some ⟨gc, 0, none⟩) n n] 61)).alloc (.cells #[.int .i64 (a : Int), .int .i64 (k : Int)] 52)).cell? ⟨w.heap.size, j, none⟩ = some u := fun j u hu => (World.cell?_alloc_lt _ _ ⟨w.heap.size, j, none⟩ (by simp)).trans (hce j u hu)
  have HRX := Hid.mk' (HR.out.below hBa)
  have HKX := Hid.mk' ((KeepBut.refl w gl gc).below hBa)
  obtain ⟨X, hX⟩ : ∃ X, (w.alloc (.cells #[.slice ad n cd, .slice aS n cs, .slice ao n co, .slice (some ⟨gl, 0, none⟩) n n, .slice (some ⟨gc, 0, none⟩) n n] 61)).alloc (.cells #[.int .i64 (a : Int), .int .i64 (k : Int)] 52) = X := ⟨_, rfl⟩
  obtain ⟨xb, hxb⟩ : ∃ xb, w.heap.size = xb := ⟨_, rfl⟩
  have hxl : xb + 1 < X.heap.size := by rw [← hX, ← hxb]; simp
  rw [hX] at HRX HKX
  rw [hX, hxb] at hrc hpc
  rw [hxb] at hglw hgcw
  try rw [hX]
  try rw [hxb]
  have c0 := hrc 0 _ rfl
  have c1 := hrc 1 _ rfl
  have c2 := hrc 2 _ rfl
  have c3 := hrc 3 _ rfl
  have c4 := hrc 4 _ rfl
  obtain ⟨p0, p1⟩ := hpc
  have hc1 := HCU.out left k X HRX.out hk hlk
  clear hX hxb hrc hce HR hBa
  go_wp2_with fail
  refine hc1.mono ?_
  rintro e V ⟨rfl, hRV, hKV⟩
  have k0 := (hKV.cell (p := ⟨xb, 0, none⟩) (by simp only; omega) (by simp only; omega) (by simp only; omega)).trans c0
  have k1 := (hKV.cell (p := ⟨xb, 1, none⟩) (by simp only; omega) (by simp only; omega) (by simp only; omega)).trans c1
  have k2 := (hKV.cell (p := ⟨xb, 2, none⟩) (by simp only; omega) (by simp only; omega) (by simp only; omega)).trans c2
  have k3 := (hKV.cell (p := ⟨xb, 3, none⟩) (by simp only; omega) (by simp only; omega) (by simp only; omega)).trans c3
  have k4 := (hKV.cell (p := ⟨xb, 4, none⟩) (by simp only; omega) (by simp only; omega) (by simp only; omega)).trans c4
  have q0 := (hKV.cell (p := ⟨xb + 1, 0, none⟩) hxl (by simp only; omega) (by simp only; omega)).trans p0
  have hc2 := HCU.out (less left k) a V hRV ha HLL.out
  have HKV : Hid (KeepBut w V gl gc) := HKX.out.trans hKV
  clear hc1 hRV hKV HKX HRX c0 c1 c2 c3 c4 p0 p1
  go_wp2_with fail
  refine hc2.mono ?_
  rintro e V2 ⟨rfl, hRV, hKV⟩
  have HF : Hid (RestAt B V2 L ad aS ao cd cs co gl gc (less (less left k) a) ∧ KeepBut w V2 gl gc) := ⟨hRV, HKV.out.trans hKV⟩
  clear hc2 hRV hKV HKV
  go_wp2_with fail
  refine bodyPost_end (v := .tuple #[]) ?_ rfl ⟨rfl, HF.out⟩
  simp [results, Tryz.f26, go_sem]

end Go.Proofs.YthdmfeidcldafaaGreatDoor
