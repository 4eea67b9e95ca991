/- The map that holds a complex's faces by their texts: how it reads, and that holds tells whether a face is there. What parts answers: the texts of a face without its vertex 0, 1, .., in new memory. What put does to the map of faces: a face and all its parts are there, the parts told to be such; or there would be too many. -/
import Derived.Test.YthmjdfjchhohgaaGreatDoorRefC
import Derived.Maps.OwnSet
import Derived.Maps.RangeWalk
import Derived.Sort.KeysCollected
import Derived.StringKeys
import Derived.Deep.OwnRows
import Derived.Deep.RegionHeld3
namespace Go.Proofs.YthmjdfjchhohgaaGreatDoor
open Go.RowKit Go.Sort Go.Maps

theorem law_string : Keyed Tryz.prog 9 := string_keyed Tryz.underlying9
theorem zero_int (w : World) : (zeroValue 3).run Tryz.prog w = .ok (.int .i64 0) w := by kernel_rfl
theorem key_of (x : List UInt8) (h : x.length ≤ maxLen) : keyOf Tryz.prog 9 (encStr x) = some (.string x) := by
  have := Go.WideMaps.keyOf_string_mk (P := Tryz.prog) Tryz.underlying9 (s := ⟨x.toArray⟩) (by simpa [ByteArray.size] using h)
  simpa [encStr] using this

/-- Block b is a map that holds the texts F, each with whether it is one of G. -/
def PileAt (w : World) (b : Nat) (F : List (List UInt8)) (G : List UInt8 → Prop) : Prop :=
  ∃ D : DataW Unit, w.ownsMap Tryz.prog 9 (plainElem Tryz.prog 3) b F.length D ∧ (∀ x : List UInt8, Maps.has D (.string x) = true ↔ x ∈ F) ∧ Maps.size D = F.length ∧
    ∀ x ∈ F, (G x → D.atKey (.string x) (.lit (.int .i64 0)) = .lit (.int .i64 1)) ∧ (¬ G x → D.atKey (.string x) (.lit (.int .i64 0)) = .lit (.int .i64 0))

theorem own_tight {H : Type} {w : World} {P : Program} {k : TypeId} {R : Value → Option (DataW H × List MemPlace)} {b n : Nat} {D : DataW H} (h : w.ownsMap P k R b n D) {m : Nat} (hm : Maps.size D ≤ m) : w.ownsMap P k R b m D := by
  obtain ⟨es, clock, h1, h2, _, rfl⟩ := h
  exact ⟨es, clock, h1, h2, by simpa [Maps.size, length_sorted] using hm, rfl⟩

theorem PileAt.kept {w w' : World} {b : Nat} {F : List (List UInt8)} {G : List UInt8 → Prop} {row : Option Nat} (h : PileAt w b F G) (hg : w.grownBy w' row) (hne : some b ≠ row) : PileAt w' b F G := by
  obtain ⟨D, h1, h2⟩ := h
  exact ⟨D, h1.kept hg hne, h2⟩
theorem PileAt.below {w w' : World} {b : Nat} {F : List (List UInt8)} {G : List UInt8 → Prop} (h : PileAt w b F G) (hB : Below w.heap.size w w') : PileAt w' b F G := h.kept (Below.grownBy hB) (by simp)
theorem PileAt.lt {w : World} {b : Nat} {F : List (List UInt8)} {G : List UInt8 → Prop} (h : PileAt w b F G) : b < w.heap.size := by
  obtain ⟨D, h1, _⟩ := h
  exact h1.lt

theorem string_key (x : List UInt8) : WideAt.IsKeyLit (.string x) := trivial
theorem string_ne {x y : List UInt8} (h : x ≠ y) : (Lit.string x) ≠ Lit.string y := fun e => h (by cases e; rfl)

/-- A new face is stored, told as an outer one. -/
theorem pile_new {w' : World} {b n : Nat} {F : List (List UInt8)} {G : List UInt8 → Prop} {D : DataW Unit} {f : List UInt8} (hf : f ∉ F) (hG : ∀ x, G x → x ∈ F) (hD : Tidy D)
    (h2 : ∀ x : List UInt8, Maps.has D (.string x) = true ↔ x ∈ F) (h3 : Maps.size D = F.length)
    (h4 : ∀ x ∈ F, (G x → D.atKey (.string x) (.lit (.int .i64 0)) = .lit (.int .i64 1)) ∧ (¬ G x → D.atKey (.string x) (.lit (.int .i64 0)) = .lit (.int .i64 0)))
    (h1 : w'.ownsMap Tryz.prog 9 (plainElem Tryz.prog 3) b n (D.put (.string f) (.lit (.int .i64 0)))) : PileAt w' b (F ++ [f]) G := by
  have hno : Maps.has D (.string f) = false := by
    cases e : Maps.has D (.string f)
    · rfl
    · exact absurd ((h2 f).1 e) hf
  have hsz : Maps.size (D.put (.string f) (.lit (.int .i64 0))) = (F ++ [f]).length := by rw [size_put hD, hno]; simp [h3]
  refine ⟨_, own_tight h1 (Nat.le_of_eq hsz), fun x => ?_, hsz, fun x hx => ?_⟩
  · by_cases e : x = f
    · subst e; rw [has_put_same hD.isMap (string_key x)]; simp
    · rw [has_put_other (string_ne e), h2]; simp [e]
  · by_cases e : x = f
    · subst e
      rw [atKey_put_same hD.isMap (string_key x)]
      exact ⟨fun h => absurd (hG x h) hf, fun _ => rfl⟩
    · rw [atKey_put_other (string_ne e)]
      exact h4 x (by simpa [e] using hx)

/-- A face that is there is told to be a part. -/
theorem pile_mark {w' : World} {b n : Nat} {F : List (List UInt8)} {G : List UInt8 → Prop} {D : DataW Unit} {f : List UInt8} (hf : f ∈ F) (hD : Tidy D)
    (h2 : ∀ x : List UInt8, Maps.has D (.string x) = true ↔ x ∈ F) (h3 : Maps.size D = F.length)
    (h4 : ∀ x ∈ F, (G x → D.atKey (.string x) (.lit (.int .i64 0)) = .lit (.int .i64 1)) ∧ (¬ G x → D.atKey (.string x) (.lit (.int .i64 0)) = .lit (.int .i64 0)))
    (h1 : w'.ownsMap Tryz.prog 9 (plainElem Tryz.prog 3) b n (D.put (.string f) (.lit (.int .i64 1)))) : PileAt w' b F (fun x => G x ∨ x = f) := by
  have hsz : Maps.size (D.put (.string f) (.lit (.int .i64 1))) = F.length := by rw [size_put hD, (h2 f).2 hf]; simp [h3]
  refine ⟨_, own_tight h1 (Nat.le_of_eq hsz), fun x => ?_, hsz, fun x hx => ?_⟩
  · by_cases e : x = f
    · subst e; rw [has_put_same hD.isMap (string_key x)]; simp [hf]
    · rw [has_put_other (string_ne e), h2]
  · by_cases e : x = f
    · subst e
      rw [atKey_put_same hD.isMap (string_key x)]
      exact ⟨fun _ => rfl, fun h => absurd (.inr rfl) h⟩
    · rw [atKey_put_other (string_ne e)]
      refine ⟨fun h => (h4 x hx).1 (h.elim id (fun h => absurd h e)), fun h => (h4 x hx).2 (fun g => h (.inl g))⟩

theorem holds_ (b : Nat) (F : List (List UInt8)) (G : List UInt8 → Prop) (x : List UInt8) (w : World) (h : PileAt w b F G) (hx : x.length ≤ 1000000) :
    Calls Tryz.prog 128 #[.map (some b), encStr x] w fun e w' => e = .returned (.bool (decide (x ∈ F))) ∧ w' = w := by
  obtain ⟨D, h1, h2, -, -⟩ := h
  have hkey := key_of x (by unfold maxLen; omega)
  have hb : Maps.has D (.string x) = decide (x ∈ F) := by
    cases e : Maps.has D (.string x)
    · exact (decide_eq_false (fun hm => by rw [(h2 x).2 hm] at e; cases e)).symm
    · exact (decide_eq_true ((h2 x).1 e)).symm
  have HB : Hid (Maps.has D (.string x) = decide (x ∈ F)) := hb
  clear hb h2
  go_enter Tryz.func128, Tryz.ntmps128
  go_wp2_with (first
    | (at_lookup; refine wpList_lookup_own_ok_int _ rfl _ _ 71 rfl 9 3 .i64 law_string Tryz.underlying71 Tryz.underlying3 (zero_int _) b _ _ rfl h1 _ _ rfl hkey ?_; intro c hat hwc)
    | go_in)
  go_ret
  exact ⟨by rw [← HB.out]; rfl, rfl⟩

end Go.Proofs.YthmjdfjchhohgaaGreatDoor

namespace Go.Proofs.YthmjdfjchhohgaaGreatDoor
open Go.RowKit Go.Sort Go.Maps Go.Deep

theorem erase_text (f : List UInt8) (i : Nat) : (⟨f.toArray⟩ : ByteArray).extract 0 i ++ (⟨f.toArray⟩ : ByteArray).extract (i + 1) f.length = ⟨(f.eraseIdx i).toArray⟩ := by
  apply ByteArray.ext
  simp [List.eraseIdx_eq_take_drop_succ]
  exact List.take_of_length_le (by simp)

set_option maxRecDepth 100000 in
set_option maxHeartbeats 1000000 in
theorem parts_ (f : List UInt8) (w : World) (h0 : 0 < f.length) (hf : f.length ≤ 1000) :
    Calls Tryz.prog 129 #[encStr f] w fun e w' => ∃ v, e = .returned v ∧ StrsIn (fun b => w.heap.size ≤ b) w' v (partsOf f) ∧ Below w.heap.size w w' := by
  obtain ⟨s, hs⟩ : ∃ s : ByteArray, (⟨f.toArray⟩ : ByteArray) = s := ⟨_, rfl⟩
  have hsz : s.size = f.length := by rw [← hs]; rfl
  have he : encStr f = .string s := by rw [← hs, encStr]
  rw [he]
  have HS : Hid ((⟨f.toArray⟩ : ByteArray) = s) := hs
  obtain ⟨n, hn⟩ : ∃ n, f.length = n := ⟨_, rfl⟩
  rw [hn] at hsz hf h0
  have HN : Hid (f.length = n) := hn
  clear hs he hn
  by_cases h1 : n = 1
  · subst h1
    go_enter Tryz.func129, Tryz.ntmps129
    go_wp2
    go_ret
    refine ⟨_, rfl, ?_, Below.refl _ _⟩
    unfold partsOf
    rw [if_pos HN.out]
    exact SliceIn.nil _ _
  · have hmk := run_make_row' (P := Tryz.prog) 129 9 (.string ⟨#[]⟩) 16 Tryz.underlying129 Tryz.info9 rfl .i64 .i64 n (by omega) (by omega)
    go_enter Tryz.func129, Tryz.ntmps129
    go_wp2
    go_loopw [13] (fun p wr => ∃ i : Nat, i ≤ n ∧ p = .int .i64 i ∧ wr.rowIs w.heap.size 9 n (fun j => if j < i then encStr (f.eraseIdx j) else encStr []) ∧ Below w.heap.size w wr)
      (fun p _ => n - (intOf p).toNat)
    case atStart => exact ⟨0, by omega, rfl, (World.rowIs_made _ _ _ _).congr (fun j _ => by simp [encStr]), (Below.refl _ _).alloc (Nat.le_refl _) _⟩
    case round =>
      obtain ⟨i, hi, rfl, hrow, hB⟩ := hrel
      by_cases hlt : i < n
      · have hc := hrow.cell hlt
        have hz := hrow.frozen i
        have HR : Hid (wr.rowIs w.heap.size 9 n (fun j => if j < i then encStr (f.eraseIdx j) else encStr [])) := hrow
        simp only [Nat.lt_irrefl, if_false] at hc
        clear hrow
        have hadd : ∀ W, (Op.stringOp .add (s.extract 0 i) (s.extract (i + 1) n)).run Tryz.prog W = .ok (.string (s.extract 0 i ++ s.extract (i + 1) n)) W := fun W => run_string_add_sum W _ _ (by simp; omega)
        go_wp2_with fail
        go_region
        go_wp2
        go_roundw
        case rel =>
          refine ⟨i + 1, by omega, by go_num, ?_, (hB.setCell (p := ⟨w.heap.size, i, none⟩) (Nat.le_refl _) _).drew⟩
          refine ((HR.out.set i _).drew).congr (fun j _ => ?_)
          by_cases e : j = i
          · subst e
            rw [if_pos rfl, if_pos (Nat.lt_succ_self _)]
            have := erase_text f j
            rw [HN.out, HS.out] at this
            rw [this, encStr]
          · rw [if_neg e]
            by_cases e2 : j < i
            · rw [if_pos e2, if_pos (by omega)]
            · rw [if_neg e2, if_neg (by omega)]
        case measure => simp [intOf]; omega
      · obtain rfl : i = n := by omega
        have HR : Hid (wr.rowIs w.heap.size 9 i (fun j => if j < i then encStr (f.eraseIdx j) else encStr [])) := hrow
        clear hrow
        go_wp2
        go_ret
        refine ⟨_, rfl, ?_, hB⟩
        have hp : partsOf f = (List.range f.length).map f.eraseIdx := by unfold partsOf; rw [if_neg (by rw [HN.out]; exact h1)]
        have hl : ((partsOf f).map encStr).length = i := by rw [hp]; simp [HN.out]
        refine ⟨some ⟨w.heap.size, 0, none⟩, i, by rw [hl]; rfl, ⟨by omega, fun h => by cases h⟩, fun _ => ⟨w.heap.size, 0, rfl, Nat.le_refl _, fun k u hu => ?_⟩⟩
        have hk : k < i := by have := (List.getElem?_eq_some_iff.1 hu).1; omega
        have hc := HR.out.cell hk
        rw [if_pos hk] at hc
        rw [Nat.zero_add, hc, ← hu, hp]
        simp [HN.out, hk]

end Go.Proofs.YthmjdfjchhohgaaGreatDoor

namespace Go.Proofs.YthmjdfjchhohgaaGreatDoor
open Go.RowKit Go.Sort Go.Maps

/-- What put answers, and what it leaves. -/
def PutPile (f : List UInt8) (F : List (List UInt8)) (G : List UInt8 → Prop) (b : Nat) (w : World) (e : Ending) (w' : World) : Prop :=
  w.grownBy w' (some b) ∧ ((e = .returned (.bool true) ∧ ∃ F' G', PileAt w' b F' G' ∧ Grew f F G F' G' ∧ f ∈ F') ∨ (e = .returned (.bool false) ∧ OverB f F))
theorem PutPile.yes {f : List UInt8} {F F' : List (List UInt8)} {G G' : List UInt8 → Prop} {b : Nat} {w : World} {e : Ending} {w' : World} (hg : w.grownBy w' (some b)) (he : e = .returned (.bool true)) (hp : PileAt w' b F' G') (hr : Grew f F G F' G') (hi : f ∈ F') : PutPile f F G b w e w' :=
  ⟨hg, .inl ⟨he, F', G', hp, hr, hi⟩⟩
theorem PutPile.no {f : List UInt8} {F : List (List UInt8)} {G : List UInt8 → Prop} {b : Nat} {w : World} {e : Ending} {w' : World} (hg : w.grownBy w' (some b)) (he : e = .returned (.bool false)) (ho : OverB f F) : PutPile f F G b w e w' :=
  ⟨hg, .inr ⟨he, ho⟩⟩

theorem grown_refl (w : World) (row : Option Nat) : w.grownBy w row := ⟨rfl, rfl, rfl, Nat.le_refl _, fun _ _ _ => rfl⟩
theorem grown_below {w w1 w2 : World} {b : Nat} (h : w.grownBy w1 (some b)) (hB : Below w1.heap.size w1 w2) : w.grownBy w2 (some b) :=
  ⟨hB.os.trans h.os, hB.tape.trans h.tape, hB.output.trans h.output, Nat.le_trans h.size hB.size, fun k hk hne => (hB.block k (Nat.lt_of_lt_of_le hk h.size)).trans (h.block k hk hne)⟩
theorem grown_trans {w w1 w2 : World} {b : Nat} (h : w.grownBy w1 (some b)) (k : w1.grownBy w2 (some b)) : w.grownBy w2 (some b) :=
  ⟨k.os.trans h.os, k.tape.trans h.tape, k.output.trans h.output, Nat.le_trans h.size k.size, fun i hi hne => (k.block i (Nat.lt_of_lt_of_le hi h.size) hne).trans (h.block i hi hne)⟩

theorem part_get {f : List UInt8} (h1 : f.length ≠ 1) {i : Nat} (hi : i < (partsOf f).length) : (partsOf f)[i]?.getD [] = f.eraseIdx i ∧ i < f.length := by
  have hp : partsOf f = (List.range f.length).map f.eraseIdx := by unfold partsOf; rw [if_neg h1]
  have hi' : i < f.length := by rw [hp] at hi; simpa using hi
  exact ⟨by rw [hp]; simp [hi'], hi'⟩
theorem parts_le (f : List UInt8) : (partsOf f).length ≤ f.length := by
  unfold partsOf
  split <;> simp
theorem parts_ne {f : List UInt8} {i : Nat} (hi : i < (partsOf f).length) : f.length ≠ 1 := fun h => by
  unfold partsOf at hi
  rw [if_pos h] at hi
  simp at hi

set_option maxRecDepth 100000 in
set_option maxHeartbeats 2000000 in
theorem put_pile : ∀ (n : Nat) (f : List UInt8) (F : List (List UInt8)) (G : List UInt8 → Prop) (w : World) (b : Nat), f.length ≤ n → 0 < f.length → f.length ≤ 1000 → PileAt w b F G → Pile f.length F G →
    Calls Tryz.prog 116 #[.map (some b), encStr f] w fun e w' => PutPile f F G b w e w' := by
  intro n
  induction n with
  | zero => intro f F G w b h1 h2; omega
  | succ n ih =>
    intro f F G w b hn h0 hx hP hp
    have hf : f ≠ [] := List.length_pos_iff.1 h0
    have hold := holds_ b F G f w hP (by omega)
    obtain ⟨s, hs⟩ : ∃ s : ByteArray, (⟨f.toArray⟩ : ByteArray) = s := ⟨_, rfl⟩
    have hsz : s.size = f.length := by rw [← hs]; rfl
    have he : encStr f = .string s := by rw [← hs, encStr]
    have HEN : Hid (encStr f = .string s) := he
    have HP : Hid (Pile f.length F G) := hp
    have HPA : Hid (PileAt w b F G) := hP
    have HF : Hid (f ≠ []) := hf
    rw [he] at hold ⊢
    clear hs he hp hP hf
    by_cases hin : f ∈ F
    · rw [decide_eq_true hin] at hold
      have HI : Hid (f ∈ F) := hin
      clear hin ih
      go_enter Tryz.func116, Tryz.ntmps116
      go_wp2_with (go_at_call 128; refine hold.mono ?_; rintro e w' ⟨rfl, rfl⟩)
      go_ret
      exact .yes (grown_refl _ _) rfl HPA.out (Grew.refl HP.out) HI.out
    · rw [decide_eq_false hin] at hold
      have HI : Hid (f ∉ F) := hin
      clear hin
      by_cases h7 : 7 < f.length
      · clear ih
        go_enter Tryz.func116, Tryz.ntmps116
        go_wp2_with (go_at_call 128; refine hold.mono ?_; rintro e w' ⟨rfl, rfl⟩)
        go_ret
        exact .no (grown_refl _ _) rfl (.inl h7)
      · obtain ⟨D, d1, d2, d3, d4⟩ := HPA.out
        have hlen := fun ty => d1.len (t := 71) (e := 3) Tryz.underlying71 ty
        rw [d3] at hlen
        have hfew := HP.out.few
        by_cases hfull : F.length = 600
        · clear ih d2 d4
          have hb6 : ((F.length : Int) == 600) = true := by rw [hfull]; rfl
          go_enter Tryz.func116, Tryz.ntmps116
          go_wp2_with (go_at_call 128; refine hold.mono ?_; rintro e w' ⟨rfl, rfl⟩)
          go_ret
          exact .no (grown_refl _ _) rfl (over_full HP.out HF.out HI.out hfull)
        · have hb6 : ((F.length : Int) == 600) = false := beq_false_of_ne (by omega)
          have hkey := key_of f (by unfold maxLen; omega)
          rw [HEN.out] at hkey
          have HD : Hid (Tidy D) := d1.tidy law_string
          have HD2 : Hid (∀ x : List UInt8, Maps.has D (.string x) = true ↔ x ∈ F) := d2
          have HD3 : Hid (Maps.size D = F.length) := d3
          have HD4 : Hid (∀ x ∈ F, (G x → D.atKey (.string x) (.lit (.int .i64 0)) = .lit (.int .i64 1)) ∧ (¬ G x → D.atKey (.string x) (.lit (.int .i64 0)) = .lit (.int .i64 0))) := d4
          have HIH : Hid (∀ (f : List UInt8) (F : List (List UInt8)) (G : List UInt8 → Prop) (w : World) (b : Nat), f.length ≤ n → 0 < f.length → f.length ≤ 1000 → PileAt w b F G → Pile f.length F G →
            Calls Tryz.prog 116 #[.map (some b), encStr f] w fun e w' => PutPile f F G b w e w') := ih
          clear d2 d3 d4 ih
          go_enter Tryz.func116, Tryz.ntmps116
          go_wp2_with (first
            | (go_at_call 128; refine hold.mono ?_; rintro e w' ⟨rfl, hw'⟩; replace hw' := hw'.symm; subst hw')
            | (at_mapUpdate; refine wpList_mapUpdate_own _ rfl _ _ _ 71 rfl 9 3 law_string Tryz.underlying71 _ b _ _ rfl d1 (by unfold maxLen; omega) _ _ _ rfl rfl hkey _ [] (plainElem_int Tryz.underlying3 (by decide)) ?_; intro w1 hown1 hg1; have hpa := parts_ f w1 h0 hx; rw [HEN.out] at hpa)
            | (go_at_call 129; refine hpa.mono ?_; rintro e w2 ⟨vp, rfl, hstr, hB2⟩; obtain ⟨ap, cp, rfl, hcp, hpo⟩ := hstr.open_)
            | go_in)
          have hP2 : PileAt w2 b (F ++ [f]) G := (pile_new HI.out HP.out.inn HD.out HD2.out HD3.out HD4.out hown1).below hB2
          have hH0 : Half f F G 0 (F ++ [f]) G := half_start HP.out HI.out (by omega)
          have hgw : w.grownBy w2 (some b) := grown_below hg1 hB2
          have hb1 : b < w1.heap.size := hown1.lt
          have hpl := parts_le f
          have HPL : Hid ((partsOf f).length ≤ f.length) := hpl
          clear hown1 hg1 hpa hold hlen hkey hb6 hstr d1 HD HD2 HD3 HD4
          go_loopw [24] (fun p wr => ∃ (i : Nat) (F' : List (List UInt8)) (G' : List UInt8 → Prop), i ≤ (partsOf f).length ∧ p = .int .i64 i ∧ PileAt wr b F' G' ∧ Half f F G i F' G' ∧ w2.grownBy wr (some b))
            (fun p _ => (partsOf f).length - (intOf p).toNat)
          case atStart => exact ⟨0, _, _, by omega, rfl, hP2, hH0, grown_refl _ _⟩
          case round =>
            obtain ⟨i, F', G', hi, rfl, hP', hH, hg⟩ := hrel
            have HPP : Hid (PileAt wr b F' G') := hP'
            have HH : Hid (Half f F G i F' G') := hH
            clear hP' hH hP2 hH0
            by_cases hlt : i < (partsOf f).length
            · obtain ⟨bp, op, rfl, hge, hbp, cpp⟩ := hpo (by omega)
              have hne := parts_ne hlt
              obtain ⟨hpe, hif⟩ := part_get hne hlt
              have gp0 := cpp i hlt
              rw [hpe] at gp0
              have gp : wr.cell? ⟨bp, op + i, none⟩ = some (encStr (f.eraseIdx i)) := by
                rw [World.cell?_of_block (hg.block bp hbp (fun e => by cases e; omega))]
                exact gp0
              have hpsh := part_short hif
              have hrec := HIH.out (f.eraseIdx i) F' G' wr b (by omega) (by omega) (by omega) HPP.out (half_pile HP.out HF.out (by omega) HH.out hif)
              have hkp := key_of (f.eraseIdx i) (by unfold maxLen; omega)
              obtain ⟨sp, hsp⟩ : ∃ s : ByteArray, (⟨(f.eraseIdx i).toArray⟩ : ByteArray) = s := ⟨_, rfl⟩
              have hep : encStr (f.eraseIdx i) = .string sp := by rw [← hsp, encStr]
              rw [hep] at gp hrec hkp
              clear gp0 cpp hpo hsp hpe hep
              go_wp2_with fail
              refine hrec.mono ?_
              rintro e w3 ⟨hg3, ⟨rfl, F'', G'', hP3, hGr, hin⟩ | ⟨rfl, hov⟩⟩
              · obtain ⟨D, d1, d2, d3, d4⟩ := hP3
                have HGR : Hid (Grew (f.eraseIdx i) F' G' F'' G'') := hGr
                have HIN : Hid (f.eraseIdx i ∈ F'') := hin
                have HD : Hid (Tidy D) := d1.tidy law_string
                have HD2 : Hid (∀ x : List UInt8, Maps.has D (.string x) = true ↔ x ∈ F'') := d2
                have HD3 : Hid (Maps.size D = F''.length) := d3
                have HD4 : Hid (∀ x ∈ F'', (G'' x → D.atKey (.string x) (.lit (.int .i64 0)) = .lit (.int .i64 1)) ∧ (¬ G'' x → D.atKey (.string x) (.lit (.int .i64 0)) = .lit (.int .i64 0))) := d4
                have hfw := hGr.few
                clear hGr hin d2 d3 d4 hrec
                go_wp2_with (first
                  | (at_mapUpdate; refine wpList_mapUpdate_own _ rfl _ _ _ 71 rfl 9 3 law_string Tryz.underlying71 _ b _ _ rfl d1 (by unfold maxLen; omega) _ _ _ rfl rfl hkp _ [] (plainElem_int Tryz.underlying3 (by decide)) ?_; intro w4 hown4 hg4)
                  | go_in)
                go_roundw
                case rel => exact ⟨i + 1, F'', _, by omega, by go_num, pile_mark HIN.out HD.out HD2.out HD3.out HD4.out hown4, half_step HH.out hif HGR.out HIN.out, grown_trans (grown_trans hg hg3) hg4⟩
                case measure => simp [intOf]; omega
              · have HOV : Hid (OverB f F) := half_over HF.out (by omega) HH.out hif hne hov
                clear hov hrec
                go_wp2
                go_ret
                exact .no (grown_trans (grown_trans hgw hg) hg3) rfl HOV.out
            · obtain rfl : i = (partsOf f).length := by omega
              clear hpo
              go_wp2
              go_ret
              exact .yes (grown_trans hgw hg) rfl HPP.out (half_end HF.out (by omega) HH.out) HH.out.self

end Go.Proofs.YthmjdfjchhohgaaGreatDoor
