/- The statement on LEIBNIZ, of whatever complex, dimensions and lists. -/
import Derived.Test.YtiblgnkjjbbmaaaDoorCupLawsE1
import Derived.Test.YtiblgnkjjbbmaaaDoorCupLawsE3
import Derived.Test.YtiblgnkjjbbmaaaDoorCupLawsN1
import Derived.Test.YtiblgnkjjbbmaaaDoorCupLawsN2
import Derived.Test.YtiblgnkjjbbmaaaDoorCupLawsN3
namespace Go.Proofs.YtiblgnkjjbbmaaaDoor
open Go.RowKit Go.Sort

theorem laws_law {a : Nat → Addr} {s : Nat → ByteArray} (vl vf vg vh : Value) (l : List (List Int)) (f g h : List Int) (i k : Int) (w : World) (hE : Errs a s w) (hT : TabOk w) (hl : Rows w vl l) (hf : Ints w vf f) (hgi : Ints w vg g) (hhi : Ints w vh h) :
    Calls Tryd.prog 3 #[vl, .int .i64 i, vf, .int .i64 k, vg, vh] w fun e w' => e = .returned (.bool true) ∧ Below w.heap.size w w' := by
  by_cases hfar : f.length ≤ 60 ∧ g.length ≤ 60 ∧ h.length ≤ 60
  · obtain ⟨hfl, hgl, hhl⟩ := hfar
    rcases bad_or_good l with ⟨j, hb⟩ | ⟨all, hg⟩
    · exact laws_bad vl vf vg vh l f g h i k hb w hE hT hl hf hgi hhi hfl hgl hhl
    · by_cases h60 : all.length ≤ 60
      · by_cases ho1 : OkAt all i f
        · by_cases ho2 : OkAt all k g
          · obtain ⟨di, x, rfl, hd1, e1, hx⟩ := okAt_word h60 ho1
            obtain ⟨dk, y, rfl, hd2, e2, hy⟩ := okAt_word h60 ho2
            by_cases h1 : di + 1 < topN all
            · by_cases h2 : di + dk + 2 ≤ topN all
              · exact laws_n3 vl vf vg vh l all f g h di dk x y e1 e2 hg hd1 hd2 hx hy h1 h2 w hE hT hl hf hgi hhi hfl hgl hhl
              · exact laws_n2 vl vf vg vh l all f g h di dk x y e1 e2 hg hd1 hd2 hx hy h1 h2 w hE hT hl hf hgi hhi hfl hgl hhl
            · exact laws_n1 vl vf vg vh l all f g h di dk x y e1 e2 hg hd1 hd2 hx hy h1 (by omega) w hE hT hl hf hgi hhi hfl hgl hhl
          · exact laws_e3 vl vf vg vh l all f g h i k hg ho1 ho2 w hE hT hl hf hgi hhi hfl hgl hhl
        · by_cases ho2 : OkAt all k g
          · exact laws_e2 vl vf vg vh l all f g h i k hg ho1 ho2 w hE hT hl hf hgi hhi hfl hgl hhl
          · exact laws_e1 vl vf vg vh l all f g h i k hg ho1 ho2 w hE hT hl hf hgi hhi hfl hgl hhl
      · exact laws_many vl vf vg vh l all f g h i k hg h60 w hE hT hl hf hgi hhi hfl hgl hhl
  · exact laws_far vl vf vg vh l f g h i k w hE hT hl hf hgi hhi hfar

end Go.Proofs.YtiblgnkjjbbmaaaDoor
