/- What Complex answers of an image: the complex of its triangles, or which error. -/
import Derived.Test.YtbmojlnkjeapkaaGreatDoorCubeBound
import Derived.Test.YtbmojlnkjeapkaaGreatDoorCubeSets
import Derived.Test.YtbmojlnkjeapkaaGreatDoorMake
import Derived.Test.YtbmojlnkjeapkaaGreatDoorHeldQuiet
namespace Go.Proofs.YtbmojlnkjeapkaaGreatDoor
open Go.RowKit Go.Sort Go.Maps

/-- What is answered of the triangles. -/
def ComplexOk (a : Nat → Addr) (l : List (List Int)) (e : Ending) (w' : World) : Prop :=
  (¬ (∀ x ∈ l, SetOk x) ∧ e = .returned (.tuple #[.agg #[.slice none 0 0], errV (a 3)])) ∨
    ((∀ x ∈ l, SetOk x) ∧ ∃ ts : List (List UInt8), ts.map ints = l.map srt ∧
      ((Over ts ∧ e = .returned (.tuple #[.agg #[.slice none 0 0], errV (a 1)])) ∨
       (¬ Over ts ∧ ∃ v ss, e = .returned (.tuple #[.agg #[v], .nilIface]) ∧ Rows w' v ((srtS ss).map ints) ∧ ss.Nodup ∧ ∀ x, x ∈ ss ↔ FaceOf ts x ∧ ¬ InnerOf ts x)))

/-- A row that was just laid reads as its numbers. -/
theorem ints_fresh (W : World) (x : List Int) (t : TypeId) : IntsIn (fun b => b = W.heap.size) (W.alloc (.cells (x.map (Value.int .i64)).toArray t)) (.slice (some ⟨W.heap.size, 0, none⟩) x.length x.length) x := by
  refine ⟨_, _, by rw [List.length_map], ⟨by rw [List.length_map]; exact Nat.le_refl _, fun h => by cases h⟩, fun _ => ⟨W.heap.size, 0, rfl, rfl, fun k u hu => ?_⟩⟩
  have := cells_new W (x.map (Value.int .i64)) t k u hu
  rwa [Addr.add_lit] at this

theorem square_in {m : List (List UInt8)} {w h : Nat} {s : Sq} (hs : s ∈ squaresL (fullAt m w h) (sqTo (w + 1) (h + 1))) : (0 ≤ s.1 ∧ s.1 < (w : Int)) ∧ 0 ≤ s.2 ∧ s.2 < (h : Int) := full_in (List.mem_filter.1 hs).2

set_option maxRecDepth 100000 in
set_option maxHeartbeats 4000000 in
theorem complex_ {a : Nat → Addr} {s : Nat → ByteArray} (vm : Value) (m : List (List UInt8)) (w : World) (hE : Errs a s w) (hm : Strs w vm m) (hl : m.length ≤ 1000) :
    Calls Tryz.prog 7 #[vm] w fun e w' => Below w.heap.size w w' ∧ ((∃ i, BadImg m i ∧ e = .returned (.tuple #[.agg #[.slice none 0 0], errV (a i)])) ∨ (OkImg m ∧ ComplexOk a (triI (wide m) (squaresL (fullI m) (cornersI m))) e w')) := by
  obtain ⟨i0, hi0, hz0, hz1, hz2⟩ := info_parts Tryz.info40
  have hfld : ∀ (x y : Option Nat) (av : Option Addr) (n cv : Nat) (W : World), (Instr.field 56 (.agg #[.map x, .map y, .slice av n cv]) 2).run Tryz.prog W = .ok (.slice av n cv) W := fun x y av n cv W => by kernel_rfl
  have hBa : Below w.heap.size w (w.alloc (.cells #[.slice none 0 0] 28)) := (Below.refl _ w).alloc (Nat.le_refl _) _
  have hval := valid_image vm m _ (hE.below hBa) (hm.below hBa) hl
  have hbox := box_new w (.slice none 0 0) 28
  have HM : Hid (Strs w vm m ∧ Errs a s w) := ⟨hm, hE⟩
  obtain ⟨W1, hW1⟩ : ∃ W1, w.alloc (.cells #[.slice none 0 0] 28) = W1 := ⟨_, rfl⟩
  obtain ⟨Z, hZ⟩ : ∃ Z, w.heap.size = Z := ⟨_, rfl⟩
  have hl1 : Z < W1.heap.size := by rw [← hW1, ← hZ]; simp
  rw [hW1] at hval
  rw [hW1, hZ] at hbox hBa
  obtain ⟨am, ca, rfl, -, -⟩ := hm.open_
  clear hm hE
  go_enter Tryz.func7, Tryz.ntmps7
  go_upto_region 1 with fail
  try rw [hW1]
  try rw [hZ]
  have HZZ : Hid (w.heap.size = Z) := hZ
  clear hW1 hZ
  go_wp2_with fail
  refine hval.mono ?_
  rintro e w2 ⟨hd, ⟨i, hbad, rfl⟩ | ⟨hok, rfl⟩⟩
  · have hB := hd.below
    have c1 : w2.cell? ⟨Z, 0, none⟩ = some (.slice none 0 0) := (hB.cell (p := ⟨Z, 0, none⟩) hl1).trans hbox.1
    have z1 : w2.frozen? ⟨Z, 0, none⟩ = false := (hB.frozen (p := ⟨Z, 0, none⟩) hl1).trans hbox.2
    have c2 := World.cell?_setCell_same' w2 ⟨Z, 0, none⟩ (.slice none 0 0) (by rw [c1]; rfl)
    have HI : Hid (BadImg m i) := hbad
    have HB : Hid (Below Z w w2) := hBa.trans (hB.mono (by omega))
    clear hval hd hbad hB
    go_wp2
    refine bodyPost_ret (v := .tuple #[.agg #[.slice none 0 0], errV (a i)]) ?_ rfl ?_
    · simp [results, Tryz.f7, go_sem, c2, errV]
    · rw [HZZ.out]; exact ⟨HB.out.setCell (p := ⟨Z, 0, none⟩) (Nat.le_refl _) _, .inl ⟨i, HI.out, rfl⟩⟩
  · have hB := hd.below
    have HB2 : Hid (Below W1.heap.size W1 w2) := hB
    have HO : Hid (OkImg m) := hok
    have hBw2 : Below Z w w2 := hBa.trans (hB.mono (by omega))
    have hpa := parts_of (.slice am m.length ca) m w2 (HM.out.1.below (by rw [HZZ.out]; exact hBw2)) hok.img.1 hok.img.2.1 hok.img.2.2.1
    have h24 : m.length ≤ 24 ∧ wide m ≤ 24 := ⟨hok.img.2.1, hok.img.2.2.1⟩
    have hwd : ∀ W, Below Z w W → Calls Tryz.prog 22 #[.slice am m.length ca] W fun e w' => e = .returned (.int .i64 (wide m : Int)) ∧ Below W.heap.size W w' := fun W hW => (width_ _ m W (HM.out.1.below (by rw [HZZ.out]; exact hW)) hok.img.1.rows).mono fun e w' h => ⟨h.1, by rw [h.2]; exact Below.refl _ _⟩
    have HSQ : Hid (∀ s ∈ squaresL (fullI m) (cornersI m), (0 ≤ s.1 ∧ s.1 < (wide m : Int)) ∧ 0 ≤ s.2 ∧ s.2 < (m.length : Int)) := fun s hs => square_in hs
    have HSL : Hid ((squaresL (fullI m) (cornersI m)).length ≤ 625) := by
      show (squaresL (fullI m) (cornersI m)).length ≤ 625
      rw [squaresL_len]; exact (counts_le m hok).2.2
    clear hval hd hok hB
    go_upto_region 6 with (go_at_call 21; refine hpa.mono ?_; rintro e w3 ⟨b1, b2, av, cv, rfl, -, -, hQ, -, hB3⟩; have HQ : Hid (SqIn (fun b => b1 < b) w3 (.slice av (squaresL (fullI m) (cornersI m)).length cv) (squaresL (fullI m) (cornersI m))) := hQ; have HB3 : Hid (Below w2.heap.size w2 w3) := hB3; clear hQ hB3)
    obtain ⟨S, hS⟩ : ∃ S, squaresL (fullAt m (wide m) m.length) (sqTo (wide m + 1) (m.length + 1)) = S := ⟨_, rfl⟩
    have HSS : Hid (squaresL (fullI m) (cornersI m) = S) := hS
    rw [HSS.out] at HQ HSQ HSL
    rw [hS]
    clear hS hpa
    obtain ⟨n, hn⟩ : ∃ n, S.length = n := ⟨_, rfl⟩
    rw [hn] at HQ
    rw [hn]
    have HNN : Hid (S.length = n) := hn
    have hnl : n ≤ 625 := by have := HSL.out; omega
    have HB3w : Hid (Below Z w w3) := hBw2.trans (HB3.out.mono (by have := HB2.out.size; omega))
    have hZ3 : Z < w3.heap.size := by have h1 := HB2.out.size; have h2 := HB3.out.size; omega
    have HCE : Hid (0 < n → ∃ g, av = some ⟨g, 0, none⟩ ∧ g < w3.heap.size ∧ ∀ k, k < n → ∃ x y, S[k]? = some (x, y) ∧ w3.cell? ⟨g, k * 2, none⟩ = some (.int .i64 x) ∧ w3.cell? ⟨g, k * 2 + 1, none⟩ = some (.int .i64 y)) := by
      intro h0
      obtain ⟨a9, c9, e9, h9⟩ := HQ.out
      cases e9
      obtain ⟨g, h1, -, h3, h4⟩ := h9 (by have := HNN.out; omega)
      refine ⟨g, h1, h3, fun k hk => ?_⟩
      have hk' : k < S.length := by have := HNN.out; omega
      exact ⟨S[k].1, S[k].2, List.getElem?_eq_getElem hk', (h4 k hk').1, (h4 k hk').2⟩
    clear hn HQ hBw2
    go_wp2_with fail
    go_loopw [5, 20] (fun v p W => ∃ k : Nat, k ≤ n ∧ p = .int .i64 k ∧ Hid (OwnRows w3.heap.size W v (triI (wide m) (S.take k))) ∧ Hid (Below w3.heap.size w3 W)) (fun _ p _ => n - (intOf p).toNat)
    case atStart => exact ⟨0, by omega, rfl, OwnRows.nil _ _, Below.refl _ _⟩
    case round =>
      obtain ⟨k, hk, rfl, HO5, HBk⟩ := hrel
      by_cases hlt : k < n
      · obtain ⟨g, rfl, hg, hcs⟩ := HCE.out (by omega)
        obtain ⟨x, y, hxy, c0, c1⟩ := hcs k hlt
        have HXY : Hid (S.take (k + 1) = S.take k ++ [(x, y)]) := by show S.take (k + 1) = _; rw [List.take_add_one, hxy]; rfl
        have hbd := HSQ.out (x, y) (List.mem_iff_getElem?.2 ⟨k, hxy⟩)
        simp only at hbd
        have k0 := (HBk.out.cell (p := ⟨g, k * 2, none⟩) hg).trans c0
        have k1 := (HBk.out.cell (p := ⟨g, k * 2 + 1, none⟩) hg).trans c1
        have h2 := two_cells wr (.int .i64 x) (.int .i64 y) 59
        have hws : w3.heap.size ≤ wr.heap.size := HBk.out.size
        have hBX : Below wr.heap.size wr (wr.alloc (.cells #[.int .i64 x, .int .i64 y] 59)) := (Below.refl _ wr).alloc (Nat.le_refl _) _
        clear hcs c0 c1 hxy
        go_upto_region 8 with fail
        obtain ⟨X, hX⟩ : ∃ X, wr.alloc (.cells #[.int .i64 x, .int .i64 y] 59) = X := ⟨_, rfl⟩
        obtain ⟨xb, hxb⟩ : ∃ xb, wr.heap.size = xb := ⟨_, rfl⟩
        have hxl : xb < X.heap.size := by rw [← hX, ← hxb]; simp
        rw [hX, hxb] at h2
        rw [hX] at hBX
        try rw [hX]
        try rw [hxb]
        have hBwX : Below Z w X := HB3w.out.trans ((HBk.out.trans (hBX.mono hws)).mono (by omega))
        have HB3X : Hid (Below w3.heap.size w3 X) := HBk.out.trans (hBX.mono hws)
        have HXS : Hid (wr.heap.size = xb) := hxb
        have hZX : Z ≤ X.heap.size := by have := hBX.size; omega
        have HBX : Hid (Below wr.heap.size wr X) := hBX
        have hcall : ∀ j : WIn X, Calls Tryz.prog 22 #[.slice am m.length ca] j.w fun e w'' => e = .returned (.int .i64 (wide m : Int)) ∧ ∃ k : WIn X, w'' = k.w := fun j => call_in j (hwd j.w (hBwX.trans (j.ok.mono (by omega))))
        have g0 : ∀ j : WIn X, j.w.cell? ⟨xb, 0, none⟩ = some (.int .i64 x) := fun j => (j.ok.cell (p := ⟨xb, 0, none⟩) hxl).trans h2.1
        have g1 : ∀ j : WIn X, j.w.cell? ⟨xb, 1, none⟩ = some (.int .i64 y) := fun j => (j.ok.cell (p := ⟨xb, 1, none⟩) hxl).trans h2.2
        obtain ⟨kn, hkn⟩ : ∃ kn : Int, y * ((wide m : Int) + 1) = kn := ⟨_, rfl⟩
        have hknl : 0 ≤ kn ∧ kn ≤ 600 := by
          rw [← hkn]
          obtain ⟨yn, hyn⟩ : ∃ yn : Nat, y = (yn : Int) := ⟨y.toNat, by omega⟩
          rw [hyn, show (yn : Int) * ((wide m : Int) + 1) = ((yn * (wide m + 1) : Nat) : Int) by simp]
          have : yn * (wide m + 1) ≤ 24 * 25 := Nat.mul_le_mul (by omega) (by omega)
          omega
        have p0 : IntKind.i64.wrap ((wide m : Int) + 1) = (wide m : Int) + 1 := wrapI (by omega) (by omega)
        have p1 : IntKind.i64.wrap (y * ((wide m : Int) + 1)) = kn := by rw [hkn]; exact wrapI (by omega) (by omega)
        have p2 : IntKind.i64.wrap (kn + x) = kn + x := wrapI (by omega) (by omega)
        have HKN : Hid (y * ((wide m : Int) + 1) = kn) := hkn
        clear hX hxb hBX h2 k0 k1 hkn
        refine region_in (by kernel_rfl) (by kernel_rfl) ?_
        repeat (go_big_quiet_step (exact hcall _))
        refine wpQuiet_nil ?_
        rintro _ ⟨j, rfl⟩
        have HVj := Hid.mk' j.ok
        obtain ⟨V, hV⟩ : ∃ V, j.w = V := ⟨_, rfl⟩
        rw [hV] at HVj ⊢
        have hwv := hwd V (hBwX.trans (HVj.out.mono (by omega)))
        clear hV hcall g0 g1 p0 p1 p2
        obtain ⟨p, hp⟩ : ∃ p : Int, kn + x = p := ⟨_, rfl⟩
        rw [hp]
        have hpb : 0 ≤ p ∧ p ≤ 1000 := by omega
        have HP : Hid (kn + x = p) := hp
        clear hp
        go_upto_region 10 with (go_at_call 22; refine hwv.mono ?_; rintro e w5 ⟨rfl, hB5⟩; have HB5 : Hid (Below V.heap.size V w5) := hB5; clear hB5)
        obtain ⟨T, hT⟩ : ∃ T, triI (wide m) (S.take k) = T := ⟨_, rfl⟩
        have HT : Hid (triI (wide m) (S.take k) = T) := hT
        obtain ⟨TN, hTN⟩ : ∃ TN, T.length = TN := ⟨_, rfl⟩
        have hTl : TN ≤ 2000 := by rw [← hTN, ← hT, triI_len, List.length_take]; omega
        have HTN : Hid (T.length = TN) := hTN
        rw [hT] at HO5
        have hBr5 : Below wr.heap.size wr w5 := HBX.out.trans ((HVj.out.trans (HB5.out.mono HVj.out.size)).mono HBX.out.size)
        have HBr5 : Hid (Below wr.heap.size wr w5) := hBr5
        obtain ⟨vs, hv1, hv2⟩ := HO5.out.below hBr5
        rw [hTN] at hv1
        have HV2 : Hid (∀ (k : Nat) (u : Value) (x : List Int), vs[k]? = some u → T[k]? = some x → IntsIn (fun b => w3.heap.size ≤ b ∧ some b ≠ u5.ownBlock) w5 u x) := hv2
        have hw35 : w3.heap.size ≤ w5.heap.size := Nat.le_trans hws hBr5.size
        have HUB : Hid (∀ b, u5.ownBlock = some b → b < wr.heap.size) := fun b hb => (HO5.out.block hb).2
        clear hT hTN hv2 hwv hBr5
        go_wp2_with (first
          | (at_builtin; refine wpList_append_own_at _ rfl (.tmp 38) (.tmp 50) 26 rfl w3.heap.size 40 i0 (.slice none 0 0) 1 24 Tryz.underlying26 hi0 hz0 hz1 hz2 rfl (by decide) _ TN vs rfl (((hv1.alloc _).alloc _).alloc _) ⟨_, 0, none⟩ 2 2 [.slice (some ⟨w5.heap.size, 0, none⟩) 3 3, .slice (some ⟨w5.heap.size + 1, 0, none⟩) 3 3] rfl rfl (fun j u hu => by have h9 := cells_new ((w5.alloc (.cells #[.int .i64 p, .int .i64 (p + 1), .int .i64 (p + (wide m : Int) + 1 + 1)] 3)).alloc (.cells #[.int .i64 p, .int .i64 (p + (wide m : Int) + 1), .int .i64 (p + (wide m : Int) + 1 + 1)] 3)) [.slice (some ⟨w5.heap.size, 0, none⟩) 3 3, .slice (some ⟨w5.heap.size + 1, 0, none⟩) 3 3] 40 j u hu; rw [World.size_alloc, World.size_alloc] at h9; exact h9) (by simp [Value.oneCell']) (by unfold maxLen; omega) (by omega) (by simp; omega) ?_; intro v6 w6 hown6 hg6 hn6 hl6)
          | fail)
        go_roundw
        case rel =>
          have hs5 := HBr5.out.size
          have f1 := ints_fresh w5 [p, p + 1, p + (wide m : Int) + 1 + 1] 3
          have f2 := ints_fresh (w5.alloc (.cells #[.int .i64 p, .int .i64 (p + 1), .int .i64 (p + (wide m : Int) + 1 + 1)] 3)) [p, p + (wide m : Int) + 1, p + (wide m : Int) + 1 + 1] 3
          rw [World.size_alloc] at f2
          have a2 : Below w5.heap.size w5 ((w5.alloc (.cells #[.int .i64 p, .int .i64 (p + 1), .int .i64 (p + (wide m : Int) + 1 + 1)] 3)).alloc (.cells #[.int .i64 p, .int .i64 (p + (wide m : Int) + 1), .int .i64 (p + (wide m : Int) + 1 + 1)] 3)) := ((Below.refl _ w5).alloc (Nat.le_refl _) _).alloc (by simp) _
          refine ⟨k + 1, by omega, by go_num, ?_, ?_⟩
          · rw [HXY.out, triI_snoc, HT.out]
            have ht : triOf (wide m) (x, y) = [[p, p + 1, p + (wide m : Int) + 1 + 1], [p, p + (wide m : Int) + 1, p + (wide m : Int) + 1 + 1]] := by
              unfold triOf
              simp only [HKN.out, HP.out]
            rw [ht]
            rw [← HTN.out] at hv1 hown6
            refine OwnRows.push2 ((hv1.alloc _).alloc _) (fun k u x hu hx => SliceIn.below (HV2.out k u x hu hx) a2) (SliceIn.below (SliceIn.mono f1 (fun b _ hb => ⟨by omega, fun e => ?_⟩)) ((Below.refl _ _).alloc (Nat.le_refl _) _)) (SliceIn.mono f2 (fun b _ hb => ⟨by omega, fun e => ?_⟩)) hown6 hg6 hl6
            · have := HUB.out b e.symm; omega
            · have := HUB.out b e.symm; omega
          · refine (((HBk.out.trans (HBr5.out.mono hws)).trans (a2.mono hw35)).alloc (by simp; omega) _).grown hg6 (by simp; omega) (fun b hb => (hv1.lt b hb).1)
        case measure => simp [intOf]; omega
      · obtain rfl : k = n := by omega
        have HTA : Hid (triI (wide m) (S.take k) = triI (wide m) S) := by show _ = _; rw [← HNN.out, List.take_length]
        rw [HTA.out] at HO5
        have hll : (triI (wide m) S).length ≤ 100000 := by rw [triI_len]; have := HNN.out; omega
        have hle := triI_three (wide m) S
        have hBe : Below Z w wr := HB3w.out.trans (HBk.out.mono (by omega))
        have hrows := HO5.out.rows
        have hmk := make_ u5 (triI (wide m) S) wr (HM.out.2.below (by rw [HZZ.out]; exact hBe)) hrows hll hle
        have hbr : ∀ V, Below wr.heap.size wr V → V.cell? ⟨Z, 0, none⟩ = some (.slice none 0 0) ∧ V.frozen? ⟨Z, 0, none⟩ = false := fun V hV => by
          have h1 := HBk.out.size
          have e1 : w3.cell? ⟨Z, 0, none⟩ = some (.slice none 0 0) := (HB3.out.cell (p := ⟨Z, 0, none⟩) (by have := HB2.out.size; simp only; omega)).trans ((HB2.out.cell (p := ⟨Z, 0, none⟩) hl1).trans hbox.1)
          have e2 : w3.frozen? ⟨Z, 0, none⟩ = false := (HB3.out.frozen (p := ⟨Z, 0, none⟩) (by have := HB2.out.size; simp only; omega)).trans ((HB2.out.frozen (p := ⟨Z, 0, none⟩) hl1).trans hbox.2)
          exact ⟨(hV.cell (p := ⟨Z, 0, none⟩) (by simp only; omega)).trans ((HBk.out.cell (p := ⟨Z, 0, none⟩) hZ3).trans e1), (hV.frozen (p := ⟨Z, 0, none⟩) (by simp only; omega)).trans ((HBk.out.frozen (p := ⟨Z, 0, none⟩) hZ3).trans e2)⟩
        have HBE : Hid (Below Z w wr) := hBe
        have hzr : Z < wr.heap.size := by have := HBk.out.size; omega
        obtain ⟨a8, c8, rfl, -, -⟩ := hrows.open_
        clear hrows hwd hBe
        go_wp2_with fail
        refine hmk.mono ?_
        clear hmk
        rintro e w6 ⟨hB6, ⟨hno, rfl⟩ | ⟨hok, ts, hts, ⟨hov, rfl⟩ | ⟨hov, v, ss, rfl, hown, hnd, hmem⟩⟩⟩
        · obtain ⟨c1, z1⟩ := hbr w6 hB6
          have c2 := World.cell?_setCell_same' w6 ⟨Z, 0, none⟩ (.slice none 0 0) (by rw [c1]; rfl)
          have H : Hid (¬ ∀ x ∈ triI (wide m) S, SetOk x) := hno
          have HB6 : Hid (Below Z w w6) := HBE.out.trans (hB6.mono (by omega))
          clear hbr hno hB6
          go_wp2
          refine bodyPost_ret (v := .tuple #[.agg #[.slice none 0 0], errV (a 3)]) ?_ rfl ?_
          · simp [results, Tryz.f7, go_sem, c2, errV]
          · rw [HZZ.out, HSS.out]; exact ⟨HB6.out.setCell (p := ⟨Z, 0, none⟩) (Nat.le_refl _) _, .inr ⟨HO.out, .inl ⟨H.out, rfl⟩⟩⟩
        · obtain ⟨c1, z1⟩ := hbr w6 hB6
          have c2 := World.cell?_setCell_same' w6 ⟨Z, 0, none⟩ (.slice none 0 0) (by rw [c1]; rfl)
          have H : Hid ((∀ x ∈ triI (wide m) S, SetOk x) ∧ ts.map ints = (triI (wide m) S).map srt ∧ Over ts) := ⟨hok, hts, hov⟩
          have HB6 : Hid (Below Z w w6) := HBE.out.trans (hB6.mono (by omega))
          clear hbr hok hts hov hB6
          go_wp2
          refine bodyPost_ret (v := .tuple #[.agg #[.slice none 0 0], errV (a 1)]) ?_ rfl ?_
          · simp [results, Tryz.f7, go_sem, c2, errV]
          · rw [HZZ.out, HSS.out]; exact ⟨HB6.out.setCell (p := ⟨Z, 0, none⟩) (Nat.le_refl _) _, .inr ⟨HO.out, .inr ⟨H.out.1, ts, H.out.2.1, .inl ⟨H.out.2.2, rfl⟩⟩⟩⟩
        · obtain ⟨c1, z1⟩ := hbr w6 hB6
          have HOW : Hid (OwnRows wr.heap.size w6 v ((srtS ss).map ints)) := hown
          obtain ⟨a3, c3, rfl, -, -⟩ := hown.rows.open_
          have c2 := World.cell?_setCell_same' w6 ⟨Z, 0, none⟩ (.slice a3 ((srtS ss).map ints).length c3) (by rw [c1]; rfl)
          rw [List.length_map] at c2
          have H : Hid (((∀ x ∈ triI (wide m) S, SetOk x) ∧ ts.map ints = (triI (wide m) S).map srt ∧ ¬ Over ts) ∧ ss.Nodup ∧ ∀ x, x ∈ ss ↔ FaceOf ts x ∧ ¬ InnerOf ts x) := ⟨⟨hok, hts, hov⟩, hnd, hmem⟩
          have HB6 : Hid (Below Z w w6) := HBE.out.trans (hB6.mono (by omega))
          clear hbr hok hts hov hnd hmem hown hB6
          go_wp2
          refine bodyPost_ret (v := .tuple #[.agg #[.slice a3 (srtS ss).length c3], .nilIface]) ?_ rfl ?_
          · simp [results, Tryz.f7, go_sem, c2]
          · have h1 := HOW.out
            rw [List.length_map] at h1
            rw [HZZ.out, HSS.out]
            exact ⟨HB6.out.setCell (p := ⟨Z, 0, none⟩) (Nat.le_refl _) _, .inr ⟨HO.out, .inr ⟨H.out.1.1, ts, H.out.1.2.1, .inr ⟨H.out.1.2.2, _, ss, rfl, (h1.setCell (p := ⟨Z, 0, none⟩) hzr _).rows, H.out.2.1, H.out.2.2⟩⟩⟩⟩

end Go.Proofs.YtbmojlnkjeapkaaGreatDoor
