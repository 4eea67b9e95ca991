/- What Read answers. -/
import Derived.Test.YtklagnmkfbjagaaGreatDoorReadMath
import Derived.ScopeJumps
import Derived.WalkMore
namespace Go.Proofs.YtklagnmkfbjagaaGreatDoor
open Go.RowKit Go.Sort Go.Maps Go.Deep

/-- Where reading stands: at a place, with sets read. -/
structure ReadAt (a : Nat → Addr) (b : List UInt8) (w : World) (n k : Nat) (l : List (List Int)) (v : Value) (w' : World) : Prop where
  some_ : blanks b ≠ b.length
  le : k ≤ b.length
  few : l.length ≤ k
  short : ∀ x ∈ l, x.length ≤ 1000
  fuel : b.length - k < n
  same : rd n l k (b.drop k) = rd (b.length + 1) [] 0 b
  rows : OwnRows (w.heap.size + 1) w' v l
  below : Below (w.heap.size + 1) (w.alloc (.cells #[.slice none 0 0] 31)) w'

theorem wp_scope_once {P : Program} {a : Act} {w : World} {Q : Exit → Act → World → Prop} {c body : Code} (l : Nat) (J : Act → World → Prop) (μ : Act → World → Nat) (hf : findLabel c l = some (Code.skip.seq body))
    (pass : ∀ a w, J a w → body.wp P (Exit.jump l (fun a' w' => J a' w' ∧ μ a' w' < μ a w) Q) a w)
    (first : (∀ a w, J a w → body.wp P (Exit.jump l J Q) a w) → c.wp P (Exit.jump l J Q) a w) : (Code.scope c).wp P Q a w :=
  wp_scope_jumps l J μ hf (first (fun a w h => wp_mono (pass a w h) (fun e a' w' hq => by
    cases e with
    | goto l' => exact ⟨hq.1, hq.2.1⟩
    | normal => exact hq
    | exit id => exact hq
    | ret => exact hq
    | panic ch => exact hq
    | outgrown => exact hq))) (fun a w h => wp_seq (wp_skip (pass a w h)))
theorem fault_at2 (W : World) {n : Nat} (hn : W.heap.size = n) (o : Obj) (x y : Value) (t : TypeId) : ((W.alloc o).alloc (.cells #[x, y] t)).cell? ⟨n + 1, 0, none⟩ = some x ∧ ((W.alloc o).alloc (.cells #[x, y] t)).cell? ⟨n + 1, 0 + 1, none⟩ = some y := by
  have h := fault_cells (W.alloc o) x y t
  rwa [World.size_alloc, hn] at h
theorem rd_at {b : List UInt8} {n k : Nat} {l : List (List Int)} (hn : b.length - k < n) {S : List Int} {E : Nat} (hS : (rset ((b.drop k).length + 1) [] ((b.drop k).drop (blanks (b.drop k)))).1 = S) (hE : k + blanks (b.drop k) + (rset ((b.drop k).length + 1) [] ((b.drop k).drop (blanks (b.drop k)))).2 = E) :
    (E = b.length → rd n l k (b.drop k) = if S = [] then .bad E else .sets (l ++ [S])) ∧ (∀ c t, b.drop E = c :: t → (S = [] ∨ c ≠ 59 → rd n l k (b.drop k) = .bad E) ∧ (¬ (S = [] ∨ c ≠ 59) → ∃ n', n = n' + 1 ∧ rd n l k (b.drop k) = rd n' (l ++ [S]) (E + 1) t)) := by
  cases n with
  | zero => omega
  | succ n =>
    have hd : ((b.drop k).drop (blanks (b.drop k))).drop (rset ((b.drop k).length + 1) [] ((b.drop k).drop (blanks (b.drop k)))).2 = b.drop E := by
      rw [List.drop_drop, List.drop_drop, ← hE]; congr 1; omega
    simp only [rd]
    rw [hd, hS, hE]
    refine ⟨fun e => ?_, fun c t e => ⟨fun h => ?_, fun h => ⟨n, rfl, ?_⟩⟩⟩
    · rw [e, List.drop_length]
    · rw [e]; simp only []; rw [if_pos h]
    · rw [e]; simp only []; rw [if_neg h]

set_option maxRecDepth 100000 in
set_option maxHeartbeats 4000000 in
theorem read_ {a : Nat → Addr} {t : Nat → ByteArray} (b : List UInt8) (s : ByteArray) (hs : (⟨b.toArray⟩ : ByteArray) = s) (hl : b.length ≤ 1990) (w : World) (hE : Errs a t w) :
    Calls Tryz.prog 11 #[.string s] w fun e w' => ReadSays a b w e w' := by
  obtain ⟨i0, hi0, hz0, hz1, hz2⟩ := info_parts Tryz.info45
  have hsz := size_is hs
  have HS : Hid ((⟨b.toArray⟩ : ByteArray) = s) := hs
  have hBa : Below w.heap.size w (w.alloc (.cells #[.slice none 0 0] 31)) := (Below.refl _ w).alloc (Nat.le_refl _) _
  have hbox := box_new w (.slice none 0 0) 31
  have hpa := past_ b s hs (by omega) 0 (Nat.zero_le _) (w.alloc (.cells #[.slice none 0 0] 31))
  rw [List.drop_zero, Nat.zero_add] at hpa
  have hbl := blanks_le b
  clear hs
  go_enter Tryz.func11, Tryz.ntmps11
  go_wp2
  refine wp_scope_once 0 (fun a' w' => ∃ (n k : Nat) (l : List (List Int)) (v4 u6 u9 u10 u11 u12 u13 u14 u15 u16 u17 u18 u19 u20 u21 u22 u23 u24 u25 u26 u27 u28 u29 u30 u31 u32 u33 u34 u35 u36 u37 u38 u39 u40 u41 u42 u43 u44 u45 u46 u47 u48 u49 u50 u51 u52 u53 u54 u55 u56 u57 u58 u59 u60 : Value), a' = { tmps := #[.string s, undef, .pointer (some ⟨w.heap.size, 0, none⟩), .nilIface, v4, .int .i64 (k : Int), u6, undef, undef, u9, u10, u11, u12, u13, u14, u15, u16, u17, u18, u19, u20, u21, u22, u23, u24, u25, u26, u27, u28, u29, u30, u31, u32, u33, u34, u35, u36, u37, u38, u39, u40, u41, u42, u43, u44, u45, u46, u47, u48, u49, u50, u51, u52, u53, u54, u55, u56, u57, u58, u59, u60, undef, undef, undef, undef, undef, undef, undef, undef, undef, undef, undef, undef, undef], defers := [] } ∧ ReadAt a b w n k l v4 w') (fun a' _ => b.length - (intOf (a'.tmps.getD 5 undef)).toNat) rfl ?_ ?_
  · rintro a' w' ⟨n, k, l, v4, u6, u9, u10, u11, u12, u13, u14, u15, u16, u17, u18, u19, u20, u21, u22, u23, u24, u25, u26, u27, u28, u29, u30, u31, u32, u33, u34, u35, u36, u37, u38, u39, u40, u41, u42, u43, u44, u45, u46, u47, u48, u49, u50, u51, u52, u53, u54, u55, u56, u57, u58, u59, u60, rfl, hat⟩
    have HAT : Hid (ReadAt a b w n k l v4 w') := hat
    have hkl := hat.le
    have hfl := hat.few
    have hrs := readset_ b s HS.out (by omega) k hkl w'
    have hra := rd_at (l := l) hat.fuel (S := _) (E := _) rfl rfl
    have hEl : k + blanks (b.drop k) + (rset ((b.drop k).length + 1) [] ((b.drop k).drop (blanks (b.drop k)))).2 ≤ b.length := by
      have h1 : (rset ((b.drop k).length + 1) [] ((b.drop k).drop (blanks (b.drop k)))).2 ≤ b.length - k - blanks (b.drop k) := Nat.le_trans (rset_le _ _ _) (by rw [List.length_drop, List.length_drop]; exact Nat.le_refl _)
      have h2 := blanks_le (b.drop k)
      rw [List.length_drop] at h2
      omega
    have hSl : 2 * (rset ((b.drop k).length + 1) [] ((b.drop k).drop (blanks (b.drop k)))).1.length ≤ 0 + (rset ((b.drop k).length + 1) [] ((b.drop k).drop (blanks (b.drop k)))).2 + 1 := rset_half _ _ _
    obtain ⟨S, hS⟩ : ∃ S, (rset ((b.drop k).length + 1) [] ((b.drop k).drop (blanks (b.drop k)))).1 = S := ⟨_, rfl⟩
    obtain ⟨E, hE0⟩ : ∃ E, k + blanks (b.drop k) + (rset ((b.drop k).length + 1) [] ((b.drop k).drop (blanks (b.drop k)))).2 = E := ⟨_, rfl⟩
    have hkE : k ≤ E := by omega
    have hS1 : S.length ≤ 1000 := by rw [hS] at hSl; omega
    rw [hS, hE0] at hra hrs
    rw [hE0] at hEl
    have HRA : Hid ((E = b.length → rd n l k (b.drop k) = if S = [] then .bad E else .sets (l ++ [S])) ∧ (∀ c t, b.drop E = c :: t → (S = [] ∨ c ≠ 59 → rd n l k (b.drop k) = .bad E) ∧ (¬ (S = [] ∨ c ≠ 59) → ∃ n', n = n' + 1 ∧ rd n l k (b.drop k) = rd n' (l ++ [S]) (E + 1) t))) := hra
    clear hS hE0 hra hSl hat
    go_wp2_with fail
    refine hrs.mono ?_
    clear hrs
    rintro e w3 ⟨v6, rfl, hI6, hB3⟩
    obtain ⟨a6, c6, rfl, -, -⟩ := hI6.open_
    have HI6 : Hid (IntsIn (fun bl => w'.heap.size ≤ bl) w3 (.slice a6 S.length c6) S) := hI6
    have HB0 : Hid (Below (w.heap.size + 1) (w.alloc (.cells #[.slice none 0 0] 31)) w3) := HAT.out.below.trans (hB3.mono (by have := HAT.out.below.size; simpa using this))
    have HB3 : Hid (Below w'.heap.size w' w3) := hB3
    have c1 : w3.cell? ⟨w.heap.size, 0, none⟩ = some (.slice none 0 0) := (HB0.out.cell (p := ⟨w.heap.size, 0, none⟩) (by simp)).trans hbox.1
    have z1 : w3.frozen? ⟨w.heap.size, 0, none⟩ = false := (HB0.out.frozen (p := ⟨w.heap.size, 0, none⟩) (by simp)).trans hbox.2
    have hE3 := (hE.below hBa).below (w' := w3) (HB0.out.mono (by simp))
    clear hI6 hB3
    by_cases hS0 : S = []
    · have HG : Hid (rd (b.length + 1) [] 0 b = .bad E) := by
        show _ = _
        rw [← HAT.out.same]
        by_cases hEE : E = b.length
        · rw [HRA.out.1 hEE, if_pos hS0]
        · have hlt : E < s.size := by omega
          exact ((HRA.out.2 _ _ (byte_is HS.out hlt)).1 (.inl hS0))
      subst hS0
      have hEi : (0 : Int) ≤ (E : Int) := by omega
      have hgl : w3.cell? ⟨1, 0, none⟩ = some (.iface 168 (.pointer (some (a 0)))) := hE3.glob 0 (by decide)
      have hne : (⟨1, 0, none⟩ : Addr) ≠ ⟨w.heap.size, 0, none⟩ := fun e => by
        have h1 : 1 = w.heap.size := congrArg Addr.block e
        have h2 := cell_lt (hE.glob 0 (by decide))
        have h3 : 1 < w.heap.size := h2
        omega
      have hgl2 : (w3.setCell ⟨w.heap.size, 0, none⟩ (.slice none 0 0)).cell? ⟨1, 0, none⟩ = some (.iface 168 (.pointer (some (a 0)))) := by
        rw [World.cell?_setCell_other w3 ⟨w.heap.size, 0, none⟩ ⟨1, 0, none⟩ (.slice none 0 0) hne.symm]; exact hgl
      have hlt3 : w.heap.size < w3.heap.size := cell_lt c1
      have c2 := World.cell?_setCell_same' w3 ⟨w.heap.size, 0, none⟩ (.slice none 0 0) (by rw [c1]; rfl)
      have c3 : ∀ o, ((w3.setCell ⟨w.heap.size, 0, none⟩ (.slice none 0 0)).alloc o).cell? ⟨w.heap.size, 0, none⟩ = some (.slice none 0 0) := fun o => (((Below.refl _ (w3.setCell ⟨w.heap.size, 0, none⟩ (.slice none 0 0))).alloc (Nat.le_refl _) o).cell (p := ⟨w.heap.size, 0, none⟩) (by simpa using hlt3)).trans c2
      have HFC : Hid (((w3.setCell ⟨w.heap.size, 0, none⟩ (.slice none 0 0)).alloc (.cells #[.int .i64 (E : Int), .iface 168 (.pointer (some (a 0)))] 57)).cell? ⟨w3.heap.size, 0, none⟩ = some (.int .i64 (E : Int)) ∧ ((w3.setCell ⟨w.heap.size, 0, none⟩ (.slice none 0 0)).alloc (.cells #[.int .i64 (E : Int), .iface 168 (.pointer (some (a 0)))] 57)).cell? ⟨w3.heap.size, 0 + 1, none⟩ = some (.iface 168 (.pointer (some (a 0))))) := by
        have := fault_cells (w3.setCell ⟨w.heap.size, 0, none⟩ (.slice none 0 0)) (.int .i64 (E : Int)) (.iface 168 (.pointer (some (a 0)))) 57
        have e : (w3.setCell ⟨w.heap.size, 0, none⟩ (.slice none 0 0)).heap.size = w3.heap.size := by simp
        rw [e] at this
        exact this
      have HBE : Hid (Below w.heap.size w ((w3.setCell ⟨w.heap.size, 0, none⟩ (.slice none 0 0)).alloc (.cells #[.int .i64 (E : Int), .iface 168 (.pointer (some (a 0)))] 57)).drew) := (((hBa.trans (HB0.out.mono (by omega))).setCell (p := ⟨w.heap.size, 0, none⟩) (Nat.le_refl _) (.slice none 0 0)).alloc (by simp; omega) _).drew
      go_wp2_with fail
      go_region
      all_goals go_wp2
      all_goals simp only [Exit.jump]
      all_goals
        refine bodyPost_ret (v := .tuple #[.agg #[.slice none 0 0], .iface 55 (.pointer (some ⟨w3.heap.size, 0, none⟩))]) ?_ rfl ?_
        · simp [results, Tryz.f11, go_sem, c3]
        · exact ⟨HBE.out, _, [], _, rfl, rowsin_nil _ _, .inr ⟨HAT.out.some_, by rw [HG.out]; exact ⟨⟨w3.heap.size, rfl, HFC.out.1, HFC.out.2⟩, rfl⟩⟩⟩
    · have hSn : 0 < S.length := List.length_pos_iff.2 hS0
      have hSb : ((S.length : Int) == 0) = false := beq_false_of_ne (by omega)
      by_cases hEE : E < b.length
      · have hlt : E < s.size := by omega
        have hd := byte_is HS.out hlt
        obtain ⟨c, hc⟩ : ∃ c, s[E]'hlt = c := ⟨_, rfl⟩
        rw [hc] at hd
        have hc8 : c.toNat < 256 := c.toNat_lt
        have hEi : (0 : Int) ≤ (E : Int) := by omega
        by_cases h59 : c = 59
        · have hcb : ((c.toNat : Int) != 59) = false := by rw [h59]; rfl
          have HST : Hid (∃ n', n = n' + 1 ∧ rd n l k (b.drop k) = rd n' (l ++ [S]) (E + 1) (b.drop (E + 1))) := (HRA.out.2 c _ hd).2 (by simp [hS0, h59])
          clear hd h59 hS0
          have hown := HAT.out.rows.below HB3.out
          obtain ⟨vs, ho1, ho2⟩ := hown
          have HO2 : Hid (∀ (k : Nat) (u : Value) (x : List Int), vs[k]? = some u → l[k]? = some x → IntsIn (fun b => w.heap.size + 1 ≤ b ∧ some b ≠ v4.ownBlock) w3 u x) := ho2
          have HO1 : Hid (w3.ownsRow (w.heap.size + 1) 45 1 v4 l.length vs) := ho1
          have hws : w.heap.size + 1 ≤ w3.heap.size := by have := HB0.out.size; simpa using this
          have hl4 : l.length ≤ 2000 := by omega
          have HU : Hid (IntsIn (fun b => w.heap.size + 1 ≤ b ∧ some b ≠ v4.ownBlock) w3 (.slice a6 S.length c6) S) := SliceIn.mono HI6.out (fun bl _ h => ⟨Nat.le_trans (by have := HAT.out.below.size; simpa using this) h, fun e => by have := (HAT.out.rows.block e.symm).2; omega⟩)
          clear ho2
          go_wp2_with (first
            | (at_builtin; refine wpList_append_slice rfl (.tmp 51) (.tmp 53) 22 rfl (w.heap.size + 1) 45 i0 (.slice none 0 0) 24 Tryz.underlying22 hi0 hz0 hz1 hz2 rfl _ _ _ rfl (ho1.alloc _) _ [.slice a6 S.length c6] rfl (slice_one _ _ _) (by simp [Value.oneCell']) (by simp; omega) (by unfold maxLen; simp; omega) (by simp; omega) ?_; intro v5 w5 hown5 hg5 hl5)
            | fail)
          have HR5 : Hid (OwnRows (w.heap.size + 1) w5 v5 (l ++ [S])) := OwnRows.push HO1.out HO2.out HU.out (by simpa using hown5) hg5 hl5
          have HB5 : Hid (Below (w.heap.size + 1) (w.alloc (.cells #[.slice none 0 0] 31)) w5) := (HB0.out.alloc hws _).grown hg5 (by simp; omega) (fun j hj => (HO1.out.lt j hj).1)
          have HSH : Hid (∀ x ∈ l ++ [S], x.length ≤ 1000) := fun x hx => by
            rcases List.mem_append.1 hx with h | h
            · exact HAT.out.short x h
            · rw [List.mem_singleton.1 h]; exact hS1
          go_step3
          have e1 : (E : Int) + 1 = ((E + 1 : Nat) : Int) := by omega
          rw [e1]
          obtain ⟨n', hn', hrd⟩ := HST.out
          have HRD : Hid (ReadAt a b w n' (E + 1) (l ++ [S]) v5 w5) := ⟨HAT.out.some_, hEE, by simp; omega, HSH.out, by have := HAT.out.fuel; omega, by rw [← hrd]; exact HAT.out.same, HR5.out, HB5.out⟩
          refine ⟨rfl, ⟨n', E + 1, l ++ [S], v5, _, _, _, _, _, _, _, _, _, _, _, _, _, _, _, _, _, _, _, _, _, _, _, _, _, _, _, _, _, _, _, _, _, _, _, _, _, _, _, _, _, _, _, _, _, _, _, _, _, _, _, _, _, rfl, HRD.out⟩, ?_⟩
          simp [intOf]
          omega
        · have hcb : ((c.toNat : Int) != 59) = true := bne_iff_ne.2 (fun e => h59 (UInt8.toNat_inj.1 (by have : (59 : UInt8).toNat = 59 := rfl; omega)))
          have HG : Hid (rd (b.length + 1) [] 0 b = .bad E) := by
            show _ = _
            rw [← HAT.out.same]; exact (HRA.out.2 c _ hd).1 (.inr h59)
          clear hd h59 hS0
          have hgl : w3.cell? ⟨1, 0, none⟩ = some (.iface 168 (.pointer (some (a 0)))) := hE3.glob 0 (by decide)
          have hne : (⟨1, 0, none⟩ : Addr) ≠ ⟨w.heap.size, 0, none⟩ := fun e => by
            have h1 : 1 = w.heap.size := congrArg Addr.block e
            have h2 := cell_lt (hE.glob 0 (by decide))
            have h3 : 1 < w.heap.size := h2
            omega
          have hgl2 : (w3.setCell ⟨w.heap.size, 0, none⟩ (.slice none 0 0)).cell? ⟨1, 0, none⟩ = some (.iface 168 (.pointer (some (a 0)))) := by
            rw [World.cell?_setCell_other w3 ⟨w.heap.size, 0, none⟩ ⟨1, 0, none⟩ (.slice none 0 0) hne.symm]; exact hgl
          have hlt3 : w.heap.size < w3.heap.size := cell_lt c1
          have c2 := World.cell?_setCell_same' w3 ⟨w.heap.size, 0, none⟩ (.slice none 0 0) (by rw [c1]; rfl)
          have c3 : ∀ o, ((w3.setCell ⟨w.heap.size, 0, none⟩ (.slice none 0 0)).alloc o).cell? ⟨w.heap.size, 0, none⟩ = some (.slice none 0 0) := fun o => (((Below.refl _ (w3.setCell ⟨w.heap.size, 0, none⟩ (.slice none 0 0))).alloc (Nat.le_refl _) o).cell (p := ⟨w.heap.size, 0, none⟩) (by simpa using hlt3)).trans c2
          have HFC : Hid (((w3.setCell ⟨w.heap.size, 0, none⟩ (.slice none 0 0)).alloc (.cells #[.int .i64 (E : Int), .iface 168 (.pointer (some (a 0)))] 57)).cell? ⟨w3.heap.size, 0, none⟩ = some (.int .i64 (E : Int)) ∧ ((w3.setCell ⟨w.heap.size, 0, none⟩ (.slice none 0 0)).alloc (.cells #[.int .i64 (E : Int), .iface 168 (.pointer (some (a 0)))] 57)).cell? ⟨w3.heap.size, 0 + 1, none⟩ = some (.iface 168 (.pointer (some (a 0))))) := by
            have := fault_cells (w3.setCell ⟨w.heap.size, 0, none⟩ (.slice none 0 0)) (.int .i64 (E : Int)) (.iface 168 (.pointer (some (a 0)))) 57
            have e : (w3.setCell ⟨w.heap.size, 0, none⟩ (.slice none 0 0)).heap.size = w3.heap.size := by simp
            rw [e] at this
            exact this
          have HBE : Hid (Below w.heap.size w ((w3.setCell ⟨w.heap.size, 0, none⟩ (.slice none 0 0)).alloc (.cells #[.int .i64 (E : Int), .iface 168 (.pointer (some (a 0)))] 57)).drew) := (((hBa.trans (HB0.out.mono (by omega))).setCell (p := ⟨w.heap.size, 0, none⟩) (Nat.le_refl _) (.slice none 0 0)).alloc (by simp; omega) _).drew
          go_wp2_with fail
          go_region
          all_goals go_wp2
          all_goals simp only [Exit.jump]
          all_goals
            refine bodyPost_ret (v := .tuple #[.agg #[.slice none 0 0], .iface 55 (.pointer (some ⟨w3.heap.size, 0, none⟩))]) ?_ rfl ?_
            · simp [results, Tryz.f11, go_sem, c3]
            · exact ⟨HBE.out, _, [], _, rfl, rowsin_nil _ _, .inr ⟨HAT.out.some_, by rw [HG.out]; exact ⟨⟨w3.heap.size, rfl, HFC.out.1, HFC.out.2⟩, rfl⟩⟩⟩
      · obtain rfl : E = b.length := by omega
        have HG : Hid (rd (b.length + 1) [] 0 b = .sets (l ++ [S])) := by
          show _ = _
          rw [← HAT.out.same, HRA.out.1 rfl, if_neg hS0]
        clear hS0
        have hown := HAT.out.rows.below HB3.out
        obtain ⟨vs, ho1, ho2⟩ := hown
        have HO2 : Hid (∀ (k : Nat) (u : Value) (x : List Int), vs[k]? = some u → l[k]? = some x → IntsIn (fun b => w.heap.size + 1 ≤ b ∧ some b ≠ v4.ownBlock) w3 u x) := ho2
        have HO1 : Hid (w3.ownsRow (w.heap.size + 1) 45 1 v4 l.length vs) := ho1
        have hws : w.heap.size + 1 ≤ w3.heap.size := by have := HB0.out.size; simpa using this
        have hl4 : l.length ≤ 2000 := by omega
        have HU : Hid (IntsIn (fun b => w.heap.size + 1 ≤ b ∧ some b ≠ v4.ownBlock) w3 (.slice a6 S.length c6) S) := SliceIn.mono HI6.out (fun bl _ h => ⟨Nat.le_trans (by have := HAT.out.below.size; simpa using this) h, fun e => by have := (HAT.out.rows.block e.symm).2; omega⟩)
        clear ho2
        go_wp2_with (first
          | (at_builtin; refine wpList_append_slice rfl (.tmp 51) (.tmp 53) 22 rfl (w.heap.size + 1) 45 i0 (.slice none 0 0) 24 Tryz.underlying22 hi0 hz0 hz1 hz2 rfl _ _ _ rfl (ho1.alloc _) _ [.slice a6 S.length c6] rfl (slice_one _ _ _) (by simp [Value.oneCell']) (by simp; omega) (by unfold maxLen; simp; omega) (by simp; omega) ?_; intro v5 w5 hown5 hg5 hl5)
          | fail)
        have HR5 : Hid (OwnRows (w.heap.size + 1) w5 v5 (l ++ [S])) := OwnRows.push HO1.out HO2.out HU.out (by simpa using hown5) hg5 hl5
        have HB5 : Hid (Below (w.heap.size + 1) (w.alloc (.cells #[.slice none 0 0] 31)) w5) := (HB0.out.alloc hws _).grown hg5 (by simp; omega) (fun j hj => (HO1.out.lt j hj).1)
        have HSH : Hid (∀ x ∈ l ++ [S], x.length ≤ 1000) := fun x hx => by
          rcases List.mem_append.1 hx with h | h
          · exact HAT.out.short x h
          · rw [List.mem_singleton.1 h]; exact hS1
        have hEw : Errs a t w5 := (hE.below hBa).below (HB5.out.mono (by simp))
        have hmk := make_ v5 (l ++ [S]) w5 hEw HR5.out.rows (by simp; omega) HSH.out
        clear ho1 hown5 hg5 hl5
        go_wp2_with fail
        refine hmk.mono ?_
        clear hmk
        rintro e w6 ⟨hB6, hcase⟩
        have HB6 : Hid (Below (w.heap.size + 1) (w.alloc (.cells #[.slice none 0 0] 31)) w6) := HB5.out.trans (hB6.mono (by have := HB5.out.size; simpa using this))
        have HC6 : Hid (w6.cell? ⟨w.heap.size, 0, none⟩ = some (.slice none 0 0) ∧ w6.frozen? ⟨w.heap.size, 0, none⟩ = false) := ⟨(HB6.out.cell (p := ⟨w.heap.size, 0, none⟩) (by simp)).trans hbox.1, (HB6.out.frozen (p := ⟨w.heap.size, 0, none⟩) (by simp)).trans hbox.2⟩
        have hlt6 : w.heap.size < w6.heap.size := cell_lt HC6.out.1
        rcases hcase with ⟨hno, rfl⟩ | ⟨hok, ts, hts, ⟨hov, rfl⟩ | ⟨hno, v6', ss, rfl, hown6, hnd, hmm⟩⟩
        · have HX : Hid (MadeOf a (l ++ [S]) (((w6.setCell ⟨w.heap.size, 0, none⟩ (.slice none 0 0)).alloc (.cells #[.slice none 0 0] 31)).alloc (.cells #[.int .i64 0, .iface 168 (.pointer (some (a 3)))] 57)) (.iface 55 (.pointer (some ⟨w6.heap.size + 1, 0, none⟩))) []) := .inl ⟨hno, ⟨w6.heap.size + 1, rfl, (fault_at2 (w6.setCell ⟨w.heap.size, 0, none⟩ (.slice none 0 0)) (n := w6.heap.size) (by simp) _ _ _ _).1, (fault_at2 (w6.setCell ⟨w.heap.size, 0, none⟩ (.slice none 0 0)) (n := w6.heap.size) (by simp) _ _ _ _).2⟩, rfl⟩
          clear hno
          have hcb := HC6.out.1
          have hzb := HC6.out.2
          have c2 := World.cell?_setCell_same' w6 ⟨w.heap.size, 0, none⟩ (.slice none 0 0) (by rw [hcb]; rfl)
          have c3 : ∀ o o', (((w6.setCell ⟨w.heap.size, 0, none⟩ (.slice none 0 0)).alloc o).alloc o').cell? ⟨w.heap.size, 0, none⟩ = some (.slice none 0 0) := fun o o' => ((((Below.refl _ (w6.setCell ⟨w.heap.size, 0, none⟩ (.slice none 0 0))).alloc (Nat.le_refl _) o).alloc (by simp) o').cell (p := ⟨w.heap.size, 0, none⟩) (by simpa using hlt6)).trans c2
          have HBE : Hid (∀ o o', Below w.heap.size w (((w6.setCell ⟨w.heap.size, 0, none⟩ (.slice none 0 0)).alloc o).alloc o')) := fun o o' => (((hBa.trans (HB6.out.mono (by omega))).setCell (p := ⟨w.heap.size, 0, none⟩) (Nat.le_refl _) _).alloc (by simp; omega) _).alloc (by simp; omega) _
          go_wp2
          simp only [Exit.jump]
          refine bodyPost_ret (v := .tuple #[.agg #[.slice none 0 0], .iface 55 (.pointer (some ⟨w6.heap.size + 1, 0, none⟩))]) ?_ rfl ?_
          · simp [results, Tryz.f11, go_sem, c3]
          · exact ⟨HBE.out _ _, _, [], _, rfl, rowsin_nil _ _, .inr ⟨HAT.out.some_, by rw [HG.out]; exact HX.out⟩⟩
        · have HX : Hid (MadeOf a (l ++ [S]) (((w6.setCell ⟨w.heap.size, 0, none⟩ (.slice none 0 0)).alloc (.cells #[.slice none 0 0] 31)).alloc (.cells #[.int .i64 0, .iface 168 (.pointer (some (a 1)))] 57)) (.iface 55 (.pointer (some ⟨w6.heap.size + 1, 0, none⟩))) []) := .inr (.inl ⟨hok, by rw [← hts]; exact over_ints.2 hov, ⟨w6.heap.size + 1, rfl, (fault_at2 (w6.setCell ⟨w.heap.size, 0, none⟩ (.slice none 0 0)) (n := w6.heap.size) (by simp) _ _ _ _).1, (fault_at2 (w6.setCell ⟨w.heap.size, 0, none⟩ (.slice none 0 0)) (n := w6.heap.size) (by simp) _ _ _ _).2⟩, rfl⟩)
          clear hok hts hov
          have hcb := HC6.out.1
          have hzb := HC6.out.2
          have c2 := World.cell?_setCell_same' w6 ⟨w.heap.size, 0, none⟩ (.slice none 0 0) (by rw [hcb]; rfl)
          have c3 : ∀ o o', (((w6.setCell ⟨w.heap.size, 0, none⟩ (.slice none 0 0)).alloc o).alloc o').cell? ⟨w.heap.size, 0, none⟩ = some (.slice none 0 0) := fun o o' => ((((Below.refl _ (w6.setCell ⟨w.heap.size, 0, none⟩ (.slice none 0 0))).alloc (Nat.le_refl _) o).alloc (by simp) o').cell (p := ⟨w.heap.size, 0, none⟩) (by simpa using hlt6)).trans c2
          have HBE : Hid (∀ o o', Below w.heap.size w (((w6.setCell ⟨w.heap.size, 0, none⟩ (.slice none 0 0)).alloc o).alloc o')) := fun o o' => (((hBa.trans (HB6.out.mono (by omega))).setCell (p := ⟨w.heap.size, 0, none⟩) (Nat.le_refl _) _).alloc (by simp; omega) _).alloc (by simp; omega) _
          go_wp2
          simp only [Exit.jump]
          refine bodyPost_ret (v := .tuple #[.agg #[.slice none 0 0], .iface 55 (.pointer (some ⟨w6.heap.size + 1, 0, none⟩))]) ?_ rfl ?_
          · simp [results, Tryz.f11, go_sem, c3]
          · exact ⟨HBE.out _ _, _, [], _, rfl, rowsin_nil _ _, .inr ⟨HAT.out.some_, by rw [HG.out]; exact HX.out⟩⟩
        · have HX : Hid ((∀ x ∈ l ++ [S], SetOk x) ∧ ¬ Over ((l ++ [S]).map srt) ∧ IsFacets ((l ++ [S]).map srt) ((srtS ss).map ints)) := ⟨hok, by rw [← hts]; exact fun h => hno (over_ints.1 h), by rw [← hts]; exact facets_built hnd hmm⟩
          have hlt5 : w.heap.size < w5.heap.size := by have := HB5.out.size; simp at this; omega
          obtain ⟨L, hL⟩ : ∃ L, (srtS ss).map ints = L := ⟨_, rfl⟩
          rw [hL] at hown6 HX
          obtain ⟨a7, c7, rfl, -, -⟩ := hown6.rows.open_
          have HRW : Hid (∀ o, RowsIn (fun bl => w.heap.size ≤ bl) ((w6.setCell ⟨w.heap.size, 0, none⟩ (.slice a7 L.length c7)).alloc o) (.slice a7 L.length c7) L) := fun o => ((hown6.setCell (p := ⟨w.heap.size, 0, none⟩) hlt5 _).rowsIn.mono (fun bl _ h => by omega)).below ((Below.refl _ _).alloc (Nat.le_refl _) _)
          have hcb := HC6.out.1
          have hzb := HC6.out.2
          have c2 := World.cell?_setCell_same' w6 ⟨w.heap.size, 0, none⟩ (.slice a7 L.length c7) (by rw [hcb]; rfl)
          have c3 : ∀ o, ((w6.setCell ⟨w.heap.size, 0, none⟩ (.slice a7 L.length c7)).alloc o).cell? ⟨w.heap.size, 0, none⟩ = some (.slice a7 L.length c7) := fun o => (((Below.refl _ (w6.setCell ⟨w.heap.size, 0, none⟩ (.slice a7 L.length c7))).alloc (Nat.le_refl _) o).cell (p := ⟨w.heap.size, 0, none⟩) (by simpa using hlt6)).trans c2
          have HBE : Hid (∀ o, Below w.heap.size w ((w6.setCell ⟨w.heap.size, 0, none⟩ (.slice a7 L.length c7)).alloc o)) := fun o => ((hBa.trans (HB6.out.mono (by omega))).setCell (p := ⟨w.heap.size, 0, none⟩) (Nat.le_refl _) _).alloc (by simp; omega) _
          clear hok hts hno hnd hmm hown6 hL
          go_wp2
          simp only [Exit.jump]
          refine bodyPost_ret (v := .tuple #[.agg #[.slice a7 L.length c7], .nilIface]) ?_ rfl ?_
          · simp [results, Tryz.f11, go_sem, c3]
          · exact ⟨HBE.out _, _, L, _, rfl, HRW.out _, .inr ⟨HAT.out.some_, by rw [HG.out]; exact .inr (.inr ⟨HX.out.1, HX.out.2.1, rfl, HX.out.2.2⟩)⟩⟩
  · intro hrest
    go_wp2_with fail
    refine hpa.mono ?_
    clear hpa
    rintro e w2 ⟨rfl, rfl⟩
    obtain ⟨k, hk⟩ : ∃ k, blanks b = k := ⟨_, rfl⟩
    rw [hk] at hbl
    rw [hk]
    have HK : Hid (blanks b = k) := hk
    clear hk
    by_cases hall : k = b.length
    · have hbb : ((k : Int) == (b.length : Int)) = true := by rw [hall]; simp
      have HAL : Hid (k = b.length) := hall
      have c1 := hbox.1
      have z1 := hbox.2
      clear hall hrest
      go_wp2
      simp only [Exit.jump]
      refine bodyPost_ret (v := .tuple #[.agg #[.slice none 0 0], .nilIface]) ?_ rfl ?_
      · simp [results, Tryz.f11, go_sem, c1]
      · exact ⟨hBa, _, [], _, rfl, rowsin_nil _ _, .inl ⟨by rw [HK.out, HAL.out], rfl, rfl⟩⟩
    · have hbb : ((k : Int) == (b.length : Int)) = false := beq_false_of_ne (by omega)
      have HAT : Hid (ReadAt a b w (b.length + 1) k [] (.slice none 0 0) (w.alloc (.cells #[.slice none 0 0] 31))) := ⟨by rw [HK.out]; exact hall, hbl, Nat.zero_le _, (fun x hx => by cases hx), by omega, by rw [rd_skip b.length [] 0 b, Nat.zero_add, HK.out], OwnRows.nil _ _, by have := Below.refl (w.heap.size + 1) (w.alloc (.cells #[.slice none 0 0] 31)); exact this⟩
      have HRS : Hid (∀ a' w', _ → _) := hrest
      clear hrest
      go_wp2
      go_step3
      rename_i K1 hK1
      exact hK1 _ _ (HRS.out _ _ ⟨b.length + 1, k, [], .slice none 0 0, _, _, _, _, _, _, _, _, _, _, _, _, _, _, _, _, _, _, _, _, _, _, _, _, _, _, _, _, _, _, _, _, _, _, _, _, _, _, _, _, _, _, _, _, _, _, _, _, _, _, _, _, _, rfl, HAT.out⟩)

end Go.Proofs.YtklagnmkfbjagaaGreatDoor
