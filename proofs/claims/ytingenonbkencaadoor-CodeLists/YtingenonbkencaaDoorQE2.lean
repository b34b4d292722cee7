import Derived.Test.YtingenonbkencaaDoorQC2J
import Derived.Test.YtingenonbkencaaDoorQC3a
import Derived.Test.YtingenonbkencaaDoorQC3b
import Derived.Test.YtingenonbkencaaDoorQC3c
import Derived.Test.YtingenonbkencaaDoorQC3d
set_option linter.unusedVariables false
set_option linter.unusedSimpArgs false
namespace Go.Proofs.YtingenonbkencaaDoor
open Go.RowKit (wrap32 wrap64)
theorem instr_1at {b:Nat}(M:Mode b)(rm:M.σ→Nat)(hN:NextAt M rm)(hR:RoomGoes M rm)(x y:WS × M.σ)(w:World)(h:On M w x)(hp:4≤rm x.2)(i:Nat)(hi:i≤4096)(hx:nextX M 154 1 x = .ok y)(hk:y.1.op=1)(hl0:0≤y.1.len)(hl1:y.1.len≤4096)(nb:Bool)(hnames:∀ w1,Lies w1 b y.1→Calls Tryd.prog 93 #[.pointer (some ⟨b,10,none⟩),.pointer (some ⟨b,154,none⟩)] w1 fun e w'=>e = .returned (.bool nb)∧w'=w1) :
 Calls Tryd.prog 65 #[.pointer (some ⟨b,0,none⟩),.int .i64 i] w (Ends M w (partsX M 1 (frontOk M false false nb i x.1.at' y))):=by
 have hE:∀ z w1,frontOk M false false nb i x.1.at' y = .error z→Fr M.SB w w1→Ends M w (partsX M 1 (frontOk M false false nb i x.1.at' y)) (.panicked (viol z.1 z.2)) w1 :=
  fun z w1 hz hf=>ends_error (by simp only[partsX,hz,thenX]) hf
 have G0:=front_goes hR hx false false nb i x.1.at'
 have G1:=G0.then (varPart M 155) (fun a a' ha=>ask_goes hR ha)
 refine askInstr_1at M rm hN x y w h (by omega) i hi hx hk hl0 hl1 nb hnames _ (fun j w1=>match j with | 0=>Stage M w y.1 (frontOk M false false nb i x.1.at' y) w1 | 1=>Stage M w y.1 (thenX (frontOk M false false nb i x.1.at' y) (varPart M 155)) w1 | 2=>Stage M w y.1 (thenX (thenX (frontOk M false false nb i x.1.at' y) (varPart M 155)) (intPart M)) w1 | _=>False) hE ?_ ?_ ?_ ?_ ?_ ?_
 ·exact fun y' w1 hy hf hon=>⟨y',hy,hf,hon,frontOk_kept hy⟩
 ·intro j w1 hj
  match j,hj with
  | 0,hj=>exact Stage.lies hj
  | 1,hj=>exact Stage.lies hj
  | 2,hj=>exact Stage.lies hj
 ·intro j w1 hj
  match j,hj with
  | 0,hj=>exact Stage.drew hj
  | 1,hj=>exact Stage.drew hj
  | 2,hj=>exact Stage.drew hj
 ·exact fun w1 hw1=>stage_stepR (p:=varPart M 155) (fun a a' ha=>askX_kept (by simp) ha) (fun z w' hz hf=>ends_error (by unfold partsX;rw[hz];try rfl) hf) (fun yy hyc hon hkp=>variable_at M rm hN yy w1 hon (by have:=G0 yy hyc;omega) 155 (by simp[places])) hw1
 ·exact fun w1 hw1=>stage_stepR (p:=intPart M) (fun a a' ha=>nextX_kept (by simp) ha) (fun z w' hz hf=>ends_error (by unfold partsX;rw[hz];try rfl) hf) (fun yy hyc hon hkp=>anyNumber_at M rm hN yy w1 hon (by have:=G1 yy hyc;omega) 1 8 (by rw[hkp.op,hk];rfl) (by omega) rfl (by omega) (by omega)) hw1
 ·exact fun w1 hw1=>stage_end hw1
theorem instr_1 {b:Nat}(M:Mode b)(hN:NextOwn M)(x y:WS × M.σ)(w:World)(h:On M w x)(i:Nat)(hi:i≤4096)(hx:nextX M 154 1 x = .ok y)(hk:y.1.op=1)(hl0:0≤y.1.len)(hl1:y.1.len≤4096)(nb:Bool)
 (hnames:∀ w1,Lies w1 b y.1→Calls Tryd.prog 93 #[.pointer (some ⟨b,10,none⟩),.pointer (some ⟨b,154,none⟩)] w1 fun e w'=>e = .returned (.bool nb)∧w'=w1) :
 Calls Tryd.prog 65 #[.pointer (some ⟨b,0,none⟩),.int .i64 i] w (Ends M w (partsX M 1 (frontOk M false false nb i x.1.at' y))) :=
 instr_1at M (fun _=>1000000) (hN.at _) (fun _ _ _ _ _=>show 1000000≤1000000+1 by omega) x y w h (show 4≤1000000 by omega) i hi hx hk hl0 hl1 nb hnames
theorem instr_2at {b:Nat}(M:Mode b)(rm:M.σ→Nat)(hN:NextAt M rm)(hR:RoomGoes M rm)(x y:WS × M.σ)(w:World)(h:On M w x)(hp:4≤rm x.2)(i:Nat)(hi:i≤4096)(hx:nextX M 154 1 x = .ok y)(hk:y.1.op=2)(hl0:0≤y.1.len)(hl1:y.1.len≤4096)(nb:Bool)(hnames:∀ w1,Lies w1 b y.1→Calls Tryd.prog 93 #[.pointer (some ⟨b,18,none⟩),.pointer (some ⟨b,154,none⟩)] w1 fun e w'=>e = .returned (.bool nb)∧w'=w1) :
 Calls Tryd.prog 65 #[.pointer (some ⟨b,0,none⟩),.int .i64 i] w (Ends M w (partsX M 2 (frontOk M false false nb i x.1.at' y))):=by
 have hE:∀ z w1,frontOk M false false nb i x.1.at' y = .error z→Fr M.SB w w1→Ends M w (partsX M 2 (frontOk M false false nb i x.1.at' y)) (.panicked (viol z.1 z.2)) w1 :=
  fun z w1 hz hf=>ends_error (by simp only[partsX,hz,thenX]) hf
 have G0:=front_goes hR hx false false nb i x.1.at'
 have G1:=G0.then (varPart M 155) (fun a a' ha=>ask_goes hR ha)
 refine askInstr_2at M rm hN x y w h (by omega) i hi hx hk hl0 hl1 nb hnames _ (fun j w1=>match j with | 0=>Stage M w y.1 (frontOk M false false nb i x.1.at' y) w1 | 1=>Stage M w y.1 (thenX (frontOk M false false nb i x.1.at' y) (varPart M 155)) w1 | 2=>Stage M w y.1 (thenX (thenX (frontOk M false false nb i x.1.at' y) (varPart M 155)) (varPart M 156)) w1 | _=>False) hE ?_ ?_ ?_ ?_ ?_ ?_
 ·exact fun y' w1 hy hf hon=>⟨y',hy,hf,hon,frontOk_kept hy⟩
 ·intro j w1 hj
  match j,hj with
  | 0,hj=>exact Stage.lies hj
  | 1,hj=>exact Stage.lies hj
  | 2,hj=>exact Stage.lies hj
 ·intro j w1 hj
  match j,hj with
  | 0,hj=>exact Stage.drew hj
  | 1,hj=>exact Stage.drew hj
  | 2,hj=>exact Stage.drew hj
 ·exact fun w1 hw1=>stage_stepR (p:=varPart M 155) (fun a a' ha=>askX_kept (by simp) ha) (fun z w' hz hf=>ends_error (by unfold partsX;rw[hz];try rfl) hf) (fun yy hyc hon hkp=>variable_at M rm hN yy w1 hon (by have:=G0 yy hyc;omega) 155 (by simp[places])) hw1
 ·exact fun w1 hw1=>stage_stepR (p:=varPart M 156) (fun a a' ha=>askX_kept (by simp) ha) (fun z w' hz hf=>ends_error (by unfold partsX;rw[hz];try rfl) hf) (fun yy hyc hon hkp=>variable_at M rm hN yy w1 hon (by have:=G1 yy hyc;omega) 156 (by simp[places])) hw1
 ·exact fun w1 hw1=>stage_end hw1
theorem instr_2 {b:Nat}(M:Mode b)(hN:NextOwn M)(x y:WS × M.σ)(w:World)(h:On M w x)(i:Nat)(hi:i≤4096)(hx:nextX M 154 1 x = .ok y)(hk:y.1.op=2)(hl0:0≤y.1.len)(hl1:y.1.len≤4096)(nb:Bool)
 (hnames:∀ w1,Lies w1 b y.1→Calls Tryd.prog 93 #[.pointer (some ⟨b,18,none⟩),.pointer (some ⟨b,154,none⟩)] w1 fun e w'=>e = .returned (.bool nb)∧w'=w1) :
 Calls Tryd.prog 65 #[.pointer (some ⟨b,0,none⟩),.int .i64 i] w (Ends M w (partsX M 2 (frontOk M false false nb i x.1.at' y))) :=
 instr_2at M (fun _=>1000000) (hN.at _) (fun _ _ _ _ _=>show 1000000≤1000000+1 by omega) x y w h (show 4≤1000000 by omega) i hi hx hk hl0 hl1 nb hnames
theorem instr_3at {b:Nat}(M:Mode b)(rm:M.σ→Nat)(hN:NextAt M rm)(hR:RoomGoes M rm)(x y:WS × M.σ)(w:World)(h:On M w x)(hp:4≤rm x.2)(i:Nat)(hi:i≤4096)(hx:nextX M 154 1 x = .ok y)(hk:y.1.op=3)(hl0:0≤y.1.len)(hl1:y.1.len≤4096)(nb:Bool)(hnames:∀ w1,Lies w1 b y.1→Calls Tryd.prog 93 #[.pointer (some ⟨b,26,none⟩),.pointer (some ⟨b,154,none⟩)] w1 fun e w'=>e = .returned (.bool nb)∧w'=w1) :
 Calls Tryd.prog 65 #[.pointer (some ⟨b,0,none⟩),.int .i64 i] w (Ends M w (partsX M 3 (frontOk M false false nb i x.1.at' y))):=by
 have hE:∀ z w1,frontOk M false false nb i x.1.at' y = .error z→Fr M.SB w w1→Ends M w (partsX M 3 (frontOk M false false nb i x.1.at' y)) (.panicked (viol z.1 z.2)) w1 :=
  fun z w1 hz hf=>ends_error (by simp only[partsX,hz,thenX]) hf
 have G0:=front_goes hR hx false false nb i x.1.at'
 have G1:=G0.then (varPart M 155) (fun a a' ha=>ask_goes hR ha)
 have G2:=G1.then (varPart M 156) (fun a a' ha=>ask_goes hR ha)
 refine askInstr_3at M rm hN x y w h (by omega) i hi hx hk hl0 hl1 nb hnames _ (fun j w1=>match j with | 0=>Stage M w y.1 (frontOk M false false nb i x.1.at' y) w1 | 1=>Stage M w y.1 (thenX (frontOk M false false nb i x.1.at' y) (varPart M 155)) w1 | 2=>Stage M w y.1 (thenX (thenX (frontOk M false false nb i x.1.at' y) (varPart M 155)) (varPart M 156)) w1 | 3=>Stage M w y.1 (thenX (thenX (thenX (frontOk M false false nb i x.1.at' y) (varPart M 155)) (varPart M 156)) (varPart M 157)) w1 | _=>False) hE ?_ ?_ ?_ ?_ ?_ ?_ ?_
 ·exact fun y' w1 hy hf hon=>⟨y',hy,hf,hon,frontOk_kept hy⟩
 ·intro j w1 hj
  match j,hj with
  | 0,hj=>exact Stage.lies hj
  | 1,hj=>exact Stage.lies hj
  | 2,hj=>exact Stage.lies hj
  | 3,hj=>exact Stage.lies hj
 ·intro j w1 hj
  match j,hj with
  | 0,hj=>exact Stage.drew hj
  | 1,hj=>exact Stage.drew hj
  | 2,hj=>exact Stage.drew hj
  | 3,hj=>exact Stage.drew hj
 ·exact fun w1 hw1=>stage_stepR (p:=varPart M 155) (fun a a' ha=>askX_kept (by simp) ha) (fun z w' hz hf=>ends_error (by unfold partsX;rw[hz];try rfl) hf) (fun yy hyc hon hkp=>variable_at M rm hN yy w1 hon (by have:=G0 yy hyc;omega) 155 (by simp[places])) hw1
 ·exact fun w1 hw1=>stage_stepR (p:=varPart M 156) (fun a a' ha=>askX_kept (by simp) ha) (fun z w' hz hf=>ends_error (by unfold partsX;rw[hz];try rfl) hf) (fun yy hyc hon hkp=>variable_at M rm hN yy w1 hon (by have:=G1 yy hyc;omega) 156 (by simp[places])) hw1
 ·exact fun w1 hw1=>stage_stepR (p:=varPart M 157) (fun a a' ha=>askX_kept (by simp) ha) (fun z w' hz hf=>ends_error (by unfold partsX;rw[hz];try rfl) hf) (fun yy hyc hon hkp=>variable_at M rm hN yy w1 hon (by have:=G2 yy hyc;omega) 157 (by simp[places])) hw1
 ·exact fun w1 hw1=>stage_end hw1
theorem instr_3 {b:Nat}(M:Mode b)(hN:NextOwn M)(x y:WS × M.σ)(w:World)(h:On M w x)(i:Nat)(hi:i≤4096)(hx:nextX M 154 1 x = .ok y)(hk:y.1.op=3)(hl0:0≤y.1.len)(hl1:y.1.len≤4096)(nb:Bool)
 (hnames:∀ w1,Lies w1 b y.1→Calls Tryd.prog 93 #[.pointer (some ⟨b,26,none⟩),.pointer (some ⟨b,154,none⟩)] w1 fun e w'=>e = .returned (.bool nb)∧w'=w1) :
 Calls Tryd.prog 65 #[.pointer (some ⟨b,0,none⟩),.int .i64 i] w (Ends M w (partsX M 3 (frontOk M false false nb i x.1.at' y))) :=
 instr_3at M (fun _=>1000000) (hN.at _) (fun _ _ _ _ _=>show 1000000≤1000000+1 by omega) x y w h (show 4≤1000000 by omega) i hi hx hk hl0 hl1 nb hnames
theorem instr_4at {b:Nat}(M:Mode b)(rm:M.σ→Nat)(hN:NextAt M rm)(hR:RoomGoes M rm)(x y:WS × M.σ)(w:World)(h:On M w x)(hp:4≤rm x.2)(i:Nat)(hi:i≤4096)(hx:nextX M 154 1 x = .ok y)(hk:y.1.op=4)(hl0:0≤y.1.len)(hl1:y.1.len≤4096)(nb:Bool)(hnames:∀ w1,Lies w1 b y.1→Calls Tryd.prog 93 #[.pointer (some ⟨b,34,none⟩),.pointer (some ⟨b,154,none⟩)] w1 fun e w'=>e = .returned (.bool nb)∧w'=w1) :
 Calls Tryd.prog 65 #[.pointer (some ⟨b,0,none⟩),.int .i64 i] w (Ends M w (partsX M 4 (frontOk M false false nb i x.1.at' y))):=by
 have hE:∀ z w1,frontOk M false false nb i x.1.at' y = .error z→Fr M.SB w w1→Ends M w (partsX M 4 (frontOk M false false nb i x.1.at' y)) (.panicked (viol z.1 z.2)) w1 :=
  fun z w1 hz hf=>ends_error (by simp only[partsX,hz,thenX]) hf
 have G0:=front_goes hR hx false false nb i x.1.at'
 have G1:=G0.then (varPart M 155) (fun a a' ha=>ask_goes hR ha)
 have G2:=G1.then (varPart M 156) (fun a a' ha=>ask_goes hR ha)
 refine askInstr_4at M rm hN x y w h (by omega) i hi hx hk hl0 hl1 nb hnames _ (fun j w1=>match j with | 0=>Stage M w y.1 (frontOk M false false nb i x.1.at' y) w1 | 1=>Stage M w y.1 (thenX (frontOk M false false nb i x.1.at' y) (varPart M 155)) w1 | 2=>Stage M w y.1 (thenX (thenX (frontOk M false false nb i x.1.at' y) (varPart M 155)) (varPart M 156)) w1 | 3=>Stage M w y.1 (thenX (thenX (thenX (frontOk M false false nb i x.1.at' y) (varPart M 155)) (varPart M 156)) (varPart M 157)) w1 | _=>False) hE ?_ ?_ ?_ ?_ ?_ ?_ ?_
 ·exact fun y' w1 hy hf hon=>⟨y',hy,hf,hon,frontOk_kept hy⟩
 ·intro j w1 hj
  match j,hj with
  | 0,hj=>exact Stage.lies hj
  | 1,hj=>exact Stage.lies hj
  | 2,hj=>exact Stage.lies hj
  | 3,hj=>exact Stage.lies hj
 ·intro j w1 hj
  match j,hj with
  | 0,hj=>exact Stage.drew hj
  | 1,hj=>exact Stage.drew hj
  | 2,hj=>exact Stage.drew hj
  | 3,hj=>exact Stage.drew hj
 ·exact fun w1 hw1=>stage_stepR (p:=varPart M 155) (fun a a' ha=>askX_kept (by simp) ha) (fun z w' hz hf=>ends_error (by unfold partsX;rw[hz];try rfl) hf) (fun yy hyc hon hkp=>variable_at M rm hN yy w1 hon (by have:=G0 yy hyc;omega) 155 (by simp[places])) hw1
 ·exact fun w1 hw1=>stage_stepR (p:=varPart M 156) (fun a a' ha=>askX_kept (by simp) ha) (fun z w' hz hf=>ends_error (by unfold partsX;rw[hz];try rfl) hf) (fun yy hyc hon hkp=>variable_at M rm hN yy w1 hon (by have:=G1 yy hyc;omega) 156 (by simp[places])) hw1
 ·exact fun w1 hw1=>stage_stepR (p:=varPart M 157) (fun a a' ha=>askX_kept (by simp) ha) (fun z w' hz hf=>ends_error (by unfold partsX;rw[hz];try rfl) hf) (fun yy hyc hon hkp=>variable_at M rm hN yy w1 hon (by have:=G2 yy hyc;omega) 157 (by simp[places])) hw1
 ·exact fun w1 hw1=>stage_end hw1
theorem instr_4 {b:Nat}(M:Mode b)(hN:NextOwn M)(x y:WS × M.σ)(w:World)(h:On M w x)(i:Nat)(hi:i≤4096)(hx:nextX M 154 1 x = .ok y)(hk:y.1.op=4)(hl0:0≤y.1.len)(hl1:y.1.len≤4096)(nb:Bool)
 (hnames:∀ w1,Lies w1 b y.1→Calls Tryd.prog 93 #[.pointer (some ⟨b,34,none⟩),.pointer (some ⟨b,154,none⟩)] w1 fun e w'=>e = .returned (.bool nb)∧w'=w1) :
 Calls Tryd.prog 65 #[.pointer (some ⟨b,0,none⟩),.int .i64 i] w (Ends M w (partsX M 4 (frontOk M false false nb i x.1.at' y))) :=
 instr_4at M (fun _=>1000000) (hN.at _) (fun _ _ _ _ _=>show 1000000≤1000000+1 by omega) x y w h (show 4≤1000000 by omega) i hi hx hk hl0 hl1 nb hnames
theorem instr_5at {b:Nat}(M:Mode b)(rm:M.σ→Nat)(hN:NextAt M rm)(hR:RoomGoes M rm)(x y:WS × M.σ)(w:World)(h:On M w x)(hp:4≤rm x.2)(i:Nat)(hi:i≤4096)(hx:nextX M 154 1 x = .ok y)(hk:y.1.op=5)(hl0:0≤y.1.len)(hl1:y.1.len≤4096)(nb:Bool)(hnames:∀ w1,Lies w1 b y.1→Calls Tryd.prog 93 #[.pointer (some ⟨b,42,none⟩),.pointer (some ⟨b,154,none⟩)] w1 fun e w'=>e = .returned (.bool nb)∧w'=w1) :
 Calls Tryd.prog 65 #[.pointer (some ⟨b,0,none⟩),.int .i64 i] w (Ends M w (partsX M 5 (frontOk M false false nb i x.1.at' y))):=by
 have hE:∀ z w1,frontOk M false false nb i x.1.at' y = .error z→Fr M.SB w w1→Ends M w (partsX M 5 (frontOk M false false nb i x.1.at' y)) (.panicked (viol z.1 z.2)) w1 :=
  fun z w1 hz hf=>ends_error (by simp only[partsX,hz,thenX]) hf
 have G0:=front_goes hR hx false false nb i x.1.at'
 have G1:=G0.then (varPart M 155) (fun a a' ha=>ask_goes hR ha)
 refine askInstr_5at M rm hN x y w h (by omega) i hi hx hk hl0 hl1 nb hnames _ (fun j w1=>match j with | 0=>Stage M w y.1 (frontOk M false false nb i x.1.at' y) w1 | 1=>Stage M w y.1 (thenX (frontOk M false false nb i x.1.at' y) (varPart M 155)) w1 | 2=>Stage M w y.1 (thenX (thenX (frontOk M false false nb i x.1.at' y) (varPart M 155)) (varPart M 156)) w1 | _=>False) hE ?_ ?_ ?_ ?_ ?_ ?_
 ·exact fun y' w1 hy hf hon=>⟨y',hy,hf,hon,frontOk_kept hy⟩
 ·intro j w1 hj
  match j,hj with
  | 0,hj=>exact Stage.lies hj
  | 1,hj=>exact Stage.lies hj
  | 2,hj=>exact Stage.lies hj
 ·intro j w1 hj
  match j,hj with
  | 0,hj=>exact Stage.drew hj
  | 1,hj=>exact Stage.drew hj
  | 2,hj=>exact Stage.drew hj
 ·exact fun w1 hw1=>stage_stepR (p:=varPart M 155) (fun a a' ha=>askX_kept (by simp) ha) (fun z w' hz hf=>ends_error (by unfold partsX;rw[hz];try rfl) hf) (fun yy hyc hon hkp=>variable_at M rm hN yy w1 hon (by have:=G0 yy hyc;omega) 155 (by simp[places])) hw1
 ·exact fun w1 hw1=>stage_stepR (p:=varPart M 156) (fun a a' ha=>askX_kept (by simp) ha) (fun z w' hz hf=>ends_error (by unfold partsX;rw[hz];try rfl) hf) (fun yy hyc hon hkp=>variable_at M rm hN yy w1 hon (by have:=G1 yy hyc;omega) 156 (by simp[places])) hw1
 ·exact fun w1 hw1=>stage_end hw1
theorem instr_5 {b:Nat}(M:Mode b)(hN:NextOwn M)(x y:WS × M.σ)(w:World)(h:On M w x)(i:Nat)(hi:i≤4096)(hx:nextX M 154 1 x = .ok y)(hk:y.1.op=5)(hl0:0≤y.1.len)(hl1:y.1.len≤4096)(nb:Bool)
 (hnames:∀ w1,Lies w1 b y.1→Calls Tryd.prog 93 #[.pointer (some ⟨b,42,none⟩),.pointer (some ⟨b,154,none⟩)] w1 fun e w'=>e = .returned (.bool nb)∧w'=w1) :
 Calls Tryd.prog 65 #[.pointer (some ⟨b,0,none⟩),.int .i64 i] w (Ends M w (partsX M 5 (frontOk M false false nb i x.1.at' y))) :=
 instr_5at M (fun _=>1000000) (hN.at _) (fun _ _ _ _ _=>show 1000000≤1000000+1 by omega) x y w h (show 4≤1000000 by omega) i hi hx hk hl0 hl1 nb hnames
theorem instr_6at {b:Nat}(M:Mode b)(rm:M.σ→Nat)(hN:NextAt M rm)(hR:RoomGoes M rm)(x y:WS × M.σ)(w:World)(h:On M w x)(hp:4≤rm x.2)(i:Nat)(hi:i≤4096)(hx:nextX M 154 1 x = .ok y)(hk:y.1.op=6)(hl0:0≤y.1.len)(hl1:y.1.len≤4096)(nb:Bool)(hnames:∀ w1,Lies w1 b y.1→Calls Tryd.prog 93 #[.pointer (some ⟨b,50,none⟩),.pointer (some ⟨b,154,none⟩)] w1 fun e w'=>e = .returned (.bool nb)∧w'=w1) :
 Calls Tryd.prog 65 #[.pointer (some ⟨b,0,none⟩),.int .i64 i] w (Ends M w (partsX M 6 (frontOk M false true nb i x.1.at' y))):=by
 have hE:∀ z w1,frontOk M false true nb i x.1.at' y = .error z→Fr M.SB w w1→Ends M w (partsX M 6 (frontOk M false true nb i x.1.at' y)) (.panicked (viol z.1 z.2)) w1 :=
  fun z w1 hz hf=>ends_error (by simp only[partsX,hz,thenX]) hf
 have G0:=front_goes hR hx false true nb i x.1.at'
 have G1:=G0.then (varPart M 155) (fun a a' ha=>ask_goes hR ha)
 refine askInstr_6at M rm hN x y w h (by omega) i hi hx hk hl0 hl1 nb hnames _ (fun j w1=>match j with | 0=>Stage M w y.1 (frontOk M false true nb i x.1.at' y) w1 | 1=>Stage M w y.1 (thenX (frontOk M false true nb i x.1.at' y) (varPart M 155)) w1 | 2=>Stage M w y.1 (thenX (thenX (frontOk M false true nb i x.1.at' y) (varPart M 155)) (fieldsPart M)) w1 | _=>False) hE ?_ ?_ ?_ ?_ ?_ ?_
 ·exact fun y' w1 hy hf hon=>⟨y',hy,hf,hon,frontOk_kept hy⟩
 ·intro j w1 hj
  match j,hj with
  | 0,hj=>exact Stage.lies hj
  | 1,hj=>exact Stage.lies hj
  | 2,hj=>exact Stage.lies hj
 ·intro j w1 hj
  match j,hj with
  | 0,hj=>exact Stage.drew hj
  | 1,hj=>exact Stage.drew hj
  | 2,hj=>exact Stage.drew hj
 ·exact fun w1 hw1=>stage_stepR (p:=varPart M 155) (fun a a' ha=>askX_kept (by simp) ha) (fun z w' hz hf=>ends_error (by unfold partsX;rw[hz];try rfl) hf) (fun yy hyc hon hkp=>variable_at M rm hN yy w1 hon (by have:=G0 yy hyc;omega) 155 (by simp[places])) hw1
 ·exact fun w1 hw1=>stage_stepR (p:=fieldsPart M) (fun a a' ha=>askX_kept (by simp) ha) (fun z w' hz hf=>ends_error (by unfold partsX;rw[hz];try rfl) hf) (fun yy hyc hon hkp=>fields_at M rm hN yy w1 hon (by have:=G1 yy hyc;omega) 6 1 (by rw[hkp.op,hk];rfl) (by omega) rfl (by omega) (by omega)) hw1
 ·exact fun w1 hw1=>stage_end hw1
theorem instr_6 {b:Nat}(M:Mode b)(hN:NextOwn M)(x y:WS × M.σ)(w:World)(h:On M w x)(i:Nat)(hi:i≤4096)(hx:nextX M 154 1 x = .ok y)(hk:y.1.op=6)(hl0:0≤y.1.len)(hl1:y.1.len≤4096)(nb:Bool)
 (hnames:∀ w1,Lies w1 b y.1→Calls Tryd.prog 93 #[.pointer (some ⟨b,50,none⟩),.pointer (some ⟨b,154,none⟩)] w1 fun e w'=>e = .returned (.bool nb)∧w'=w1) :
 Calls Tryd.prog 65 #[.pointer (some ⟨b,0,none⟩),.int .i64 i] w (Ends M w (partsX M 6 (frontOk M false true nb i x.1.at' y))) :=
 instr_6at M (fun _=>1000000) (hN.at _) (fun _ _ _ _ _=>show 1000000≤1000000+1 by omega) x y w h (show 4≤1000000 by omega) i hi hx hk hl0 hl1 nb hnames
theorem instr_7at {b:Nat}(M:Mode b)(rm:M.σ→Nat)(hN:NextAt M rm)(hR:RoomGoes M rm)(x y:WS × M.σ)(w:World)(h:On M w x)(hp:4≤rm x.2)(i:Nat)(hi:i≤4096)(hx:nextX M 154 1 x = .ok y)(hk:y.1.op=7)(hl0:0≤y.1.len)(hl1:y.1.len≤4096)(nb:Bool)(hnames:∀ w1,Lies w1 b y.1→Calls Tryd.prog 93 #[.pointer (some ⟨b,58,none⟩),.pointer (some ⟨b,154,none⟩)] w1 fun e w'=>e = .returned (.bool nb)∧w'=w1) :
 Calls Tryd.prog 65 #[.pointer (some ⟨b,0,none⟩),.int .i64 i] w (Ends M w (partsX M 7 (frontOk M false false nb i x.1.at' y))):=by
 have hE:∀ z w1,frontOk M false false nb i x.1.at' y = .error z→Fr M.SB w w1→Ends M w (partsX M 7 (frontOk M false false nb i x.1.at' y)) (.panicked (viol z.1 z.2)) w1 :=
  fun z w1 hz hf=>ends_error (by simp only[partsX,hz,thenX]) hf
 have G0:=front_goes hR hx false false nb i x.1.at'
 have G1:=G0.then (varPart M 155) (fun a a' ha=>ask_goes hR ha)
 have G2:=G1.then (varPart M 156) (fun a a' ha=>ask_goes hR ha)
 refine askInstr_7at M rm hN x y w h (by omega) i hi hx hk hl0 hl1 nb hnames _ (fun j w1=>match j with | 0=>Stage M w y.1 (frontOk M false false nb i x.1.at' y) w1 | 1=>Stage M w y.1 (thenX (frontOk M false false nb i x.1.at' y) (varPart M 155)) w1 | 2=>Stage M w y.1 (thenX (thenX (frontOk M false false nb i x.1.at' y) (varPart M 155)) (varPart M 156)) w1 | 3=>Stage M w y.1 (thenX (thenX (thenX (frontOk M false false nb i x.1.at' y) (varPart M 155)) (varPart M 156)) (fieldPart M)) w1 | _=>False) hE ?_ ?_ ?_ ?_ ?_ ?_ ?_
 ·exact fun y' w1 hy hf hon=>⟨y',hy,hf,hon,frontOk_kept hy⟩
 ·intro j w1 hj
  match j,hj with
  | 0,hj=>exact Stage.lies hj
  | 1,hj=>exact Stage.lies hj
  | 2,hj=>exact Stage.lies hj
  | 3,hj=>exact Stage.lies hj
 ·intro j w1 hj
  match j,hj with
  | 0,hj=>exact Stage.drew hj
  | 1,hj=>exact Stage.drew hj
  | 2,hj=>exact Stage.drew hj
  | 3,hj=>exact Stage.drew hj
 ·exact fun w1 hw1=>stage_stepR (p:=varPart M 155) (fun a a' ha=>askX_kept (by simp) ha) (fun z w' hz hf=>ends_error (by unfold partsX;rw[hz];try rfl) hf) (fun yy hyc hon hkp=>variable_at M rm hN yy w1 hon (by have:=G0 yy hyc;omega) 155 (by simp[places])) hw1
 ·exact fun w1 hw1=>stage_stepR (p:=varPart M 156) (fun a a' ha=>askX_kept (by simp) ha) (fun z w' hz hf=>ends_error (by unfold partsX;rw[hz];try rfl) hf) (fun yy hyc hon hkp=>variable_at M rm hN yy w1 hon (by have:=G1 yy hyc;omega) 156 (by simp[places])) hw1
 ·exact fun w1 hw1=>stage_stepR (p:=fieldPart M) (fun a a' ha=>askX_kept (by simp) ha) (fun z w' hz hf=>ends_error (by unfold partsX;rw[hz];try rfl) hf) (fun yy hyc hon hkp=>field_at M rm hN yy w1 hon (by have:=G2 yy hyc;omega) 7 1 (by rw[hkp.op,hk];rfl) (by omega) rfl (by omega) (by omega)) hw1
 ·exact fun w1 hw1=>stage_end hw1
theorem instr_7 {b:Nat}(M:Mode b)(hN:NextOwn M)(x y:WS × M.σ)(w:World)(h:On M w x)(i:Nat)(hi:i≤4096)(hx:nextX M 154 1 x = .ok y)(hk:y.1.op=7)(hl0:0≤y.1.len)(hl1:y.1.len≤4096)(nb:Bool)
 (hnames:∀ w1,Lies w1 b y.1→Calls Tryd.prog 93 #[.pointer (some ⟨b,58,none⟩),.pointer (some ⟨b,154,none⟩)] w1 fun e w'=>e = .returned (.bool nb)∧w'=w1) :
 Calls Tryd.prog 65 #[.pointer (some ⟨b,0,none⟩),.int .i64 i] w (Ends M w (partsX M 7 (frontOk M false false nb i x.1.at' y))) :=
 instr_7at M (fun _=>1000000) (hN.at _) (fun _ _ _ _ _=>show 1000000≤1000000+1 by omega) x y w h (show 4≤1000000 by omega) i hi hx hk hl0 hl1 nb hnames
theorem instr_8at {b:Nat}(M:Mode b)(rm:M.σ→Nat)(hN:NextAt M rm)(hR:RoomGoes M rm)(x y:WS × M.σ)(w:World)(h:On M w x)(hp:4≤rm x.2)(i:Nat)(hi:i≤4096)(hx:nextX M 154 1 x = .ok y)(hk:y.1.op=8)(hl0:0≤y.1.len)(hl1:y.1.len≤4096)(nb:Bool)(hnames:∀ w1,Lies w1 b y.1→Calls Tryd.prog 93 #[.pointer (some ⟨b,66,none⟩),.pointer (some ⟨b,154,none⟩)] w1 fun e w'=>e = .returned (.bool nb)∧w'=w1) :
 Calls Tryd.prog 65 #[.pointer (some ⟨b,0,none⟩),.int .i64 i] w (Ends M w (partsX M 8 (frontOk M false false nb i x.1.at' y))):=by
 have hE:∀ z w1,frontOk M false false nb i x.1.at' y = .error z→Fr M.SB w w1→Ends M w (partsX M 8 (frontOk M false false nb i x.1.at' y)) (.panicked (viol z.1 z.2)) w1 :=
  fun z w1 hz hf=>ends_error (by simp only[partsX,hz,thenX]) hf
 have G0:=front_goes hR hx false false nb i x.1.at'
 have G1:=G0.then (varPart M 155) (fun a a' ha=>ask_goes hR ha)
 have G2:=G1.then (varPart M 156) (fun a a' ha=>ask_goes hR ha)
 refine askInstr_8at M rm hN x y w h (by omega) i hi hx hk hl0 hl1 nb hnames _ (fun j w1=>match j with | 0=>Stage M w y.1 (frontOk M false false nb i x.1.at' y) w1 | 1=>Stage M w y.1 (thenX (frontOk M false false nb i x.1.at' y) (varPart M 155)) w1 | 2=>Stage M w y.1 (thenX (thenX (frontOk M false false nb i x.1.at' y) (varPart M 155)) (varPart M 156)) w1 | 3=>Stage M w y.1 (thenX (thenX (thenX (frontOk M false false nb i x.1.at' y) (varPart M 155)) (varPart M 156)) (fieldPart M)) w1 | _=>False) hE ?_ ?_ ?_ ?_ ?_ ?_ ?_
 ·exact fun y' w1 hy hf hon=>⟨y',hy,hf,hon,frontOk_kept hy⟩
 ·intro j w1 hj
  match j,hj with
  | 0,hj=>exact Stage.lies hj
  | 1,hj=>exact Stage.lies hj
  | 2,hj=>exact Stage.lies hj
  | 3,hj=>exact Stage.lies hj
 ·intro j w1 hj
  match j,hj with
  | 0,hj=>exact Stage.drew hj
  | 1,hj=>exact Stage.drew hj
  | 2,hj=>exact Stage.drew hj
  | 3,hj=>exact Stage.drew hj
 ·exact fun w1 hw1=>stage_stepR (p:=varPart M 155) (fun a a' ha=>askX_kept (by simp) ha) (fun z w' hz hf=>ends_error (by unfold partsX;rw[hz];try rfl) hf) (fun yy hyc hon hkp=>variable_at M rm hN yy w1 hon (by have:=G0 yy hyc;omega) 155 (by simp[places])) hw1
 ·exact fun w1 hw1=>stage_stepR (p:=varPart M 156) (fun a a' ha=>askX_kept (by simp) ha) (fun z w' hz hf=>ends_error (by unfold partsX;rw[hz];try rfl) hf) (fun yy hyc hon hkp=>variable_at M rm hN yy w1 hon (by have:=G1 yy hyc;omega) 156 (by simp[places])) hw1
 ·exact fun w1 hw1=>stage_stepR (p:=fieldPart M) (fun a a' ha=>askX_kept (by simp) ha) (fun z w' hz hf=>ends_error (by unfold partsX;rw[hz];try rfl) hf) (fun yy hyc hon hkp=>field_at M rm hN yy w1 hon (by have:=G2 yy hyc;omega) 8 1 (by rw[hkp.op,hk];rfl) (by omega) rfl (by omega) (by omega)) hw1
 ·exact fun w1 hw1=>stage_end hw1
theorem instr_8 {b:Nat}(M:Mode b)(hN:NextOwn M)(x y:WS × M.σ)(w:World)(h:On M w x)(i:Nat)(hi:i≤4096)(hx:nextX M 154 1 x = .ok y)(hk:y.1.op=8)(hl0:0≤y.1.len)(hl1:y.1.len≤4096)(nb:Bool)
 (hnames:∀ w1,Lies w1 b y.1→Calls Tryd.prog 93 #[.pointer (some ⟨b,66,none⟩),.pointer (some ⟨b,154,none⟩)] w1 fun e w'=>e = .returned (.bool nb)∧w'=w1) :
 Calls Tryd.prog 65 #[.pointer (some ⟨b,0,none⟩),.int .i64 i] w (Ends M w (partsX M 8 (frontOk M false false nb i x.1.at' y))) :=
 instr_8at M (fun _=>1000000) (hN.at _) (fun _ _ _ _ _=>show 1000000≤1000000+1 by omega) x y w h (show 4≤1000000 by omega) i hi hx hk hl0 hl1 nb hnames
theorem instr_9at {b:Nat}(M:Mode b)(rm:M.σ→Nat)(hN:NextAt M rm)(hR:RoomGoes M rm)(x y:WS × M.σ)(w:World)(h:On M w x)(hp:4≤rm x.2)(i:Nat)(hi:i≤4096)(hx:nextX M 154 1 x = .ok y)(hk:y.1.op=9)(hl0:0≤y.1.len)(hl1:y.1.len≤4096)(nb:Bool)(hnames:∀ w1,Lies w1 b y.1→Calls Tryd.prog 93 #[.pointer (some ⟨b,74,none⟩),.pointer (some ⟨b,154,none⟩)] w1 fun e w'=>e = .returned (.bool nb)∧w'=w1) :
 Calls Tryd.prog 65 #[.pointer (some ⟨b,0,none⟩),.int .i64 i] w (Ends M w (partsX M 9 (frontOk M false false nb i x.1.at' y))):=by
 have hE:∀ z w1,frontOk M false false nb i x.1.at' y = .error z→Fr M.SB w w1→Ends M w (partsX M 9 (frontOk M false false nb i x.1.at' y)) (.panicked (viol z.1 z.2)) w1 :=
  fun z w1 hz hf=>ends_error (by simp only[partsX,hz,thenX]) hf
 have G0:=front_goes hR hx false false nb i x.1.at'
 have G1:=G0.then (varPart M 155) (fun a a' ha=>ask_goes hR ha)
 refine askInstr_9at M rm hN x y w h (by omega) i hi hx hk hl0 hl1 nb hnames _ (fun j w1=>match j with | 0=>Stage M w y.1 (frontOk M false false nb i x.1.at' y) w1 | 1=>Stage M w y.1 (thenX (frontOk M false false nb i x.1.at' y) (varPart M 155)) w1 | 2=>Stage M w y.1 (thenX (thenX (frontOk M false false nb i x.1.at' y) (varPart M 155)) (globalPart M)) w1 | _=>False) hE ?_ ?_ ?_ ?_ ?_ ?_
 ·exact fun y' w1 hy hf hon=>⟨y',hy,hf,hon,frontOk_kept hy⟩
 ·intro j w1 hj
  match j,hj with
  | 0,hj=>exact Stage.lies hj
  | 1,hj=>exact Stage.lies hj
  | 2,hj=>exact Stage.lies hj
 ·intro j w1 hj
  match j,hj with
  | 0,hj=>exact Stage.drew hj
  | 1,hj=>exact Stage.drew hj
  | 2,hj=>exact Stage.drew hj
 ·exact fun w1 hw1=>stage_stepR (p:=varPart M 155) (fun a a' ha=>askX_kept (by simp) ha) (fun z w' hz hf=>ends_error (by unfold partsX;rw[hz];try rfl) hf) (fun yy hyc hon hkp=>variable_at M rm hN yy w1 hon (by have:=G0 yy hyc;omega) 155 (by simp[places])) hw1
 ·exact fun w1 hw1=>stage_stepR (p:=globalPart M) (fun a a' ha=>askX_kept (by simp) ha) (fun z w' hz hf=>ends_error (by unfold partsX;rw[hz];try rfl) hf) (fun yy hyc hon hkp=>global_at M rm hN yy w1 hon (by have:=G1 yy hyc;omega) 9 1 (by rw[hkp.op,hk];rfl) (by omega) rfl (by omega) (by omega)) hw1
 ·exact fun w1 hw1=>stage_end hw1
theorem instr_9 {b:Nat}(M:Mode b)(hN:NextOwn M)(x y:WS × M.σ)(w:World)(h:On M w x)(i:Nat)(hi:i≤4096)(hx:nextX M 154 1 x = .ok y)(hk:y.1.op=9)(hl0:0≤y.1.len)(hl1:y.1.len≤4096)(nb:Bool)
 (hnames:∀ w1,Lies w1 b y.1→Calls Tryd.prog 93 #[.pointer (some ⟨b,74,none⟩),.pointer (some ⟨b,154,none⟩)] w1 fun e w'=>e = .returned (.bool nb)∧w'=w1) :
 Calls Tryd.prog 65 #[.pointer (some ⟨b,0,none⟩),.int .i64 i] w (Ends M w (partsX M 9 (frontOk M false false nb i x.1.at' y))) :=
 instr_9at M (fun _=>1000000) (hN.at _) (fun _ _ _ _ _=>show 1000000≤1000000+1 by omega) x y w h (show 4≤1000000 by omega) i hi hx hk hl0 hl1 nb hnames
theorem instr_10at {b:Nat}(M:Mode b)(rm:M.σ→Nat)(hN:NextAt M rm)(hR:RoomGoes M rm)(x y:WS × M.σ)(w:World)(h:On M w x)(hp:4≤rm x.2)(i:Nat)(hi:i≤4096)(hx:nextX M 154 1 x = .ok y)(hk:y.1.op=10)(hl0:0≤y.1.len)(hl1:y.1.len≤4096)(nb:Bool)(hnames:∀ w1,Lies w1 b y.1→Calls Tryd.prog 93 #[.pointer (some ⟨b,82,none⟩),.pointer (some ⟨b,154,none⟩)] w1 fun e w'=>e = .returned (.bool nb)∧w'=w1) :
 Calls Tryd.prog 65 #[.pointer (some ⟨b,0,none⟩),.int .i64 i] w (Ends M w (partsX M 10 (frontOk M false false nb i x.1.at' y))):=by
 have hE:∀ z w1,frontOk M false false nb i x.1.at' y = .error z→Fr M.SB w w1→Ends M w (partsX M 10 (frontOk M false false nb i x.1.at' y)) (.panicked (viol z.1 z.2)) w1 :=
  fun z w1 hz hf=>ends_error (by simp only[partsX,hz,thenX]) hf
 have G0:=front_goes hR hx false false nb i x.1.at'
 have G1:=G0.then (varPart M 156) (fun a a' ha=>ask_goes hR ha)
 refine askInstr_10at M rm hN x y w h (by omega) i hi hx hk hl0 hl1 nb hnames _ (fun j w1=>match j with | 0=>Stage M w y.1 (frontOk M false false nb i x.1.at' y) w1 | 1=>Stage M w y.1 (thenX (frontOk M false false nb i x.1.at' y) (varPart M 156)) w1 | 2=>Stage M w y.1 (thenX (thenX (frontOk M false false nb i x.1.at' y) (varPart M 156)) (globalPart M)) w1 | _=>False) hE ?_ ?_ ?_ ?_ ?_ ?_
 ·exact fun y' w1 hy hf hon=>⟨y',hy,hf,hon,frontOk_kept hy⟩
 ·intro j w1 hj
  match j,hj with
  | 0,hj=>exact Stage.lies hj
  | 1,hj=>exact Stage.lies hj
  | 2,hj=>exact Stage.lies hj
 ·intro j w1 hj
  match j,hj with
  | 0,hj=>exact Stage.drew hj
  | 1,hj=>exact Stage.drew hj
  | 2,hj=>exact Stage.drew hj
 ·exact fun w1 hw1=>stage_stepR (p:=varPart M 156) (fun a a' ha=>askX_kept (by simp) ha) (fun z w' hz hf=>ends_error (by unfold partsX;rw[hz];try rfl) hf) (fun yy hyc hon hkp=>variable_at M rm hN yy w1 hon (by have:=G0 yy hyc;omega) 156 (by simp[places])) hw1
 ·exact fun w1 hw1=>stage_stepR (p:=globalPart M) (fun a a' ha=>askX_kept (by simp) ha) (fun z w' hz hf=>ends_error (by unfold partsX;rw[hz];try rfl) hf) (fun yy hyc hon hkp=>global_at M rm hN yy w1 hon (by have:=G1 yy hyc;omega) 10 1 (by rw[hkp.op,hk];rfl) (by omega) rfl (by omega) (by omega)) hw1
 ·exact fun w1 hw1=>stage_end hw1
theorem instr_10 {b:Nat}(M:Mode b)(hN:NextOwn M)(x y:WS × M.σ)(w:World)(h:On M w x)(i:Nat)(hi:i≤4096)(hx:nextX M 154 1 x = .ok y)(hk:y.1.op=10)(hl0:0≤y.1.len)(hl1:y.1.len≤4096)(nb:Bool)
 (hnames:∀ w1,Lies w1 b y.1→Calls Tryd.prog 93 #[.pointer (some ⟨b,82,none⟩),.pointer (some ⟨b,154,none⟩)] w1 fun e w'=>e = .returned (.bool nb)∧w'=w1) :
 Calls Tryd.prog 65 #[.pointer (some ⟨b,0,none⟩),.int .i64 i] w (Ends M w (partsX M 10 (frontOk M false false nb i x.1.at' y))) :=
 instr_10at M (fun _=>1000000) (hN.at _) (fun _ _ _ _ _=>show 1000000≤1000000+1 by omega) x y w h (show 4≤1000000 by omega) i hi hx hk hl0 hl1 nb hnames
theorem instr_12at {b:Nat}(M:Mode b)(rm:M.σ→Nat)(hN:NextAt M rm)(hR:RoomGoes M rm)(x y:WS × M.σ)(w:World)(h:On M w x)(hp:4≤rm x.2)(i:Nat)(hi:i≤4096)(hx:nextX M 154 1 x = .ok y)(hk:y.1.op=12)(hl0:0≤y.1.len)(hl1:y.1.len≤4096)(nb:Bool)(hnames:∀ w1,Lies w1 b y.1→Calls Tryd.prog 93 #[.pointer (some ⟨b,98,none⟩),.pointer (some ⟨b,154,none⟩)] w1 fun e w'=>e = .returned (.bool nb)∧w'=w1) :
 Calls Tryd.prog 65 #[.pointer (some ⟨b,0,none⟩),.int .i64 i] w (Ends M w (partsX M 12 (frontOk M false false nb i x.1.at' y))):=by
 have hE:∀ z w1,frontOk M false false nb i x.1.at' y = .error z→Fr M.SB w w1→Ends M w (partsX M 12 (frontOk M false false nb i x.1.at' y)) (.panicked (viol z.1 z.2)) w1 :=
  fun z w1 hz hf=>ends_error (by simp only[partsX,hz,thenX]) hf
 have G0:=front_goes hR hx false false nb i x.1.at'
 refine askInstr_12at M rm hN x y w h (by omega) i hi hx hk hl0 hl1 nb hnames _ (fun j w1=>match j with | 0=>Stage M w y.1 (frontOk M false false nb i x.1.at' y) w1 | 1=>Stage M w y.1 (thenX (frontOk M false false nb i x.1.at' y) (varPart M 156)) w1 | _=>False) hE ?_ ?_ ?_ ?_ ?_
 ·exact fun y' w1 hy hf hon=>⟨y',hy,hf,hon,frontOk_kept hy⟩
 ·intro j w1 hj
  match j,hj with
  | 0,hj=>exact Stage.lies hj
  | 1,hj=>exact Stage.lies hj
 ·intro j w1 hj
  match j,hj with
  | 0,hj=>exact Stage.drew hj
  | 1,hj=>exact Stage.drew hj
 ·exact fun w1 hw1=>stage_stepR (p:=varPart M 156) (fun a a' ha=>askX_kept (by simp) ha) (fun z w' hz hf=>ends_error (by unfold partsX;rw[hz];try rfl) hf) (fun yy hyc hon hkp=>variable_at M rm hN yy w1 hon (by have:=G0 yy hyc;omega) 156 (by simp[places])) hw1
 ·exact fun w1 hw1=>stage_end hw1
theorem instr_12 {b:Nat}(M:Mode b)(hN:NextOwn M)(x y:WS × M.σ)(w:World)(h:On M w x)(i:Nat)(hi:i≤4096)(hx:nextX M 154 1 x = .ok y)(hk:y.1.op=12)(hl0:0≤y.1.len)(hl1:y.1.len≤4096)(nb:Bool)
 (hnames:∀ w1,Lies w1 b y.1→Calls Tryd.prog 93 #[.pointer (some ⟨b,98,none⟩),.pointer (some ⟨b,154,none⟩)] w1 fun e w'=>e = .returned (.bool nb)∧w'=w1) :
 Calls Tryd.prog 65 #[.pointer (some ⟨b,0,none⟩),.int .i64 i] w (Ends M w (partsX M 12 (frontOk M false false nb i x.1.at' y))) :=
 instr_12at M (fun _=>1000000) (hN.at _) (fun _ _ _ _ _=>show 1000000≤1000000+1 by omega) x y w h (show 4≤1000000 by omega) i hi hx hk hl0 hl1 nb hnames
theorem instr_13at {b:Nat}(M:Mode b)(rm:M.σ→Nat)(hN:NextAt M rm)(hR:RoomGoes M rm)(x y:WS × M.σ)(w:World)(h:On M w x)(hp:4≤rm x.2)(i:Nat)(hi:i≤4096)(hx:nextX M 154 1 x = .ok y)(hk:y.1.op=13)(hl0:0≤y.1.len)(hl1:y.1.len≤4096)(nb:Bool)(hnames:∀ w1,Lies w1 b y.1→Calls Tryd.prog 93 #[.pointer (some ⟨b,106,none⟩),.pointer (some ⟨b,154,none⟩)] w1 fun e w'=>e = .returned (.bool nb)∧w'=w1) :
 Calls Tryd.prog 65 #[.pointer (some ⟨b,0,none⟩),.int .i64 i] w (Ends M w (partsX M 13 (frontOk M true false nb i x.1.at' y))):=by
 have hE:∀ z w1,frontOk M true false nb i x.1.at' y = .error z→Fr M.SB w w1→Ends M w (partsX M 13 (frontOk M true false nb i x.1.at' y)) (.panicked (viol z.1 z.2)) w1 :=
  fun z w1 hz hf=>ends_error (by simp only[partsX,hz,thenX]) hf
 have G0:=front_goes hR hx true false nb i x.1.at'
 refine askInstr_13at M rm hN x y w h (by omega) i hi hx hk hl0 hl1 nb hnames _ (fun j w1=>match j with | 0=>Stage M w y.1 (frontOk M true false nb i x.1.at' y) w1 | 1=>Stage M w y.1 (thenX (frontOk M true false nb i x.1.at' y) (targetPart M)) w1 | _=>False) hE ?_ ?_ ?_ ?_ ?_
 ·exact fun y' w1 hy hf hon=>⟨y',hy,hf,hon,frontOk_kept hy⟩
 ·intro j w1 hj
  match j,hj with
  | 0,hj=>exact Stage.lies hj
  | 1,hj=>exact Stage.lies hj
 ·intro j w1 hj
  match j,hj with
  | 0,hj=>exact Stage.drew hj
  | 1,hj=>exact Stage.drew hj
 ·exact fun w1 hw1=>stage_stepR (p:=targetPart M) (fun a a' ha=>askX_kept (by simp) ha) (fun z w' hz hf=>ends_error (by unfold partsX;rw[hz];try rfl) hf) (fun yy hyc hon hkp=>target_at M rm hN yy w1 hon (by have:=G0 yy hyc;omega) 13 2 (by rw[hkp.op,hk];rfl) (by omega) rfl (by omega) (by omega)) hw1
 ·exact fun w1 hw1=>stage_end hw1
theorem instr_13 {b:Nat}(M:Mode b)(hN:NextOwn M)(x y:WS × M.σ)(w:World)(h:On M w x)(i:Nat)(hi:i≤4096)(hx:nextX M 154 1 x = .ok y)(hk:y.1.op=13)(hl0:0≤y.1.len)(hl1:y.1.len≤4096)(nb:Bool)
 (hnames:∀ w1,Lies w1 b y.1→Calls Tryd.prog 93 #[.pointer (some ⟨b,106,none⟩),.pointer (some ⟨b,154,none⟩)] w1 fun e w'=>e = .returned (.bool nb)∧w'=w1) :
 Calls Tryd.prog 65 #[.pointer (some ⟨b,0,none⟩),.int .i64 i] w (Ends M w (partsX M 13 (frontOk M true false nb i x.1.at' y))) :=
 instr_13at M (fun _=>1000000) (hN.at _) (fun _ _ _ _ _=>show 1000000≤1000000+1 by omega) x y w h (show 4≤1000000 by omega) i hi hx hk hl0 hl1 nb hnames
theorem instr_14at {b:Nat}(M:Mode b)(rm:M.σ→Nat)(hN:NextAt M rm)(hR:RoomGoes M rm)(x y:WS × M.σ)(w:World)(h:On M w x)(hp:4≤rm x.2)(i:Nat)(hi:i≤4096)(hx:nextX M 154 1 x = .ok y)(hk:y.1.op=14)(hl0:0≤y.1.len)(hl1:y.1.len≤4096)(nb:Bool)(hnames:∀ w1,Lies w1 b y.1→Calls Tryd.prog 93 #[.pointer (some ⟨b,114,none⟩),.pointer (some ⟨b,154,none⟩)] w1 fun e w'=>e = .returned (.bool nb)∧w'=w1) :
 Calls Tryd.prog 65 #[.pointer (some ⟨b,0,none⟩),.int .i64 i] w (Ends M w (partsX M 14 (frontOk M false false nb i x.1.at' y))):=by
 have hE:∀ z w1,frontOk M false false nb i x.1.at' y = .error z→Fr M.SB w w1→Ends M w (partsX M 14 (frontOk M false false nb i x.1.at' y)) (.panicked (viol z.1 z.2)) w1 :=
  fun z w1 hz hf=>ends_error (by simp only[partsX,hz,thenX]) hf
 have G0:=front_goes hR hx false false nb i x.1.at'
 have G1:=G0.then (varPart M 156) (fun a a' ha=>ask_goes hR ha)
 refine askInstr_14at M rm hN x y w h (by omega) i hi hx hk hl0 hl1 nb hnames _ (fun j w1=>match j with | 0=>Stage M w y.1 (frontOk M false false nb i x.1.at' y) w1 | 1=>Stage M w y.1 (thenX (frontOk M false false nb i x.1.at' y) (varPart M 156)) w1 | 2=>Stage M w y.1 (thenX (thenX (frontOk M false false nb i x.1.at' y) (varPart M 156)) (targetPart M)) w1 | _=>False) hE ?_ ?_ ?_ ?_ ?_ ?_
 ·exact fun y' w1 hy hf hon=>⟨y',hy,hf,hon,frontOk_kept hy⟩
 ·intro j w1 hj
  match j,hj with
  | 0,hj=>exact Stage.lies hj
  | 1,hj=>exact Stage.lies hj
  | 2,hj=>exact Stage.lies hj
 ·intro j w1 hj
  match j,hj with
  | 0,hj=>exact Stage.drew hj
  | 1,hj=>exact Stage.drew hj
  | 2,hj=>exact Stage.drew hj
 ·exact fun w1 hw1=>stage_stepR (p:=varPart M 156) (fun a a' ha=>askX_kept (by simp) ha) (fun z w' hz hf=>ends_error (by unfold partsX;rw[hz];try rfl) hf) (fun yy hyc hon hkp=>variable_at M rm hN yy w1 hon (by have:=G0 yy hyc;omega) 156 (by simp[places])) hw1
 ·exact fun w1 hw1=>stage_stepR (p:=targetPart M) (fun a a' ha=>askX_kept (by simp) ha) (fun z w' hz hf=>ends_error (by unfold partsX;rw[hz];try rfl) hf) (fun yy hyc hon hkp=>target_at M rm hN yy w1 hon (by have:=G1 yy hyc;omega) 14 2 (by rw[hkp.op,hk];rfl) (by omega) rfl (by omega) (by omega)) hw1
 ·exact fun w1 hw1=>stage_end hw1
theorem instr_14 {b:Nat}(M:Mode b)(hN:NextOwn M)(x y:WS × M.σ)(w:World)(h:On M w x)(i:Nat)(hi:i≤4096)(hx:nextX M 154 1 x = .ok y)(hk:y.1.op=14)(hl0:0≤y.1.len)(hl1:y.1.len≤4096)(nb:Bool)
 (hnames:∀ w1,Lies w1 b y.1→Calls Tryd.prog 93 #[.pointer (some ⟨b,114,none⟩),.pointer (some ⟨b,154,none⟩)] w1 fun e w'=>e = .returned (.bool nb)∧w'=w1) :
 Calls Tryd.prog 65 #[.pointer (some ⟨b,0,none⟩),.int .i64 i] w (Ends M w (partsX M 14 (frontOk M false false nb i x.1.at' y))) :=
 instr_14at M (fun _=>1000000) (hN.at _) (fun _ _ _ _ _=>show 1000000≤1000000+1 by omega) x y w h (show 4≤1000000 by omega) i hi hx hk hl0 hl1 nb hnames
theorem instr_16at {b:Nat}(M:Mode b)(rm:M.σ→Nat)(hN:NextAt M rm)(hR:RoomGoes M rm)(x y:WS × M.σ)(w:World)(h:On M w x)(hp:4≤rm x.2)(i:Nat)(hi:i≤4096)(hx:nextX M 154 1 x = .ok y)(hk:y.1.op=16)(hl0:0≤y.1.len)(hl1:y.1.len≤4096)(nb:Bool)(hnames:∀ w1,Lies w1 b y.1→Calls Tryd.prog 93 #[.pointer (some ⟨b,130,none⟩),.pointer (some ⟨b,154,none⟩)] w1 fun e w'=>e = .returned (.bool nb)∧w'=w1) :
 Calls Tryd.prog 65 #[.pointer (some ⟨b,0,none⟩),.int .i64 i] w (Ends M w (partsX M 16 (frontOk M false false nb i x.1.at' y))):=by
 have hE:∀ z w1,frontOk M false false nb i x.1.at' y = .error z→Fr M.SB w w1→Ends M w (partsX M 16 (frontOk M false false nb i x.1.at' y)) (.panicked (viol z.1 z.2)) w1 :=
  fun z w1 hz hf=>ends_error (by simp only[partsX,hz,thenX]) hf
 have G0:=front_goes hR hx false false nb i x.1.at'
 refine askInstr_16at M rm hN x y w h (by omega) i hi hx hk hl0 hl1 nb hnames _ (fun j w1=>match j with | 0=>Stage M w y.1 (frontOk M false false nb i x.1.at' y) w1 | 1=>Stage M w y.1 (thenX (frontOk M false false nb i x.1.at' y) (varPart M 155)) w1 | _=>False) hE ?_ ?_ ?_ ?_ ?_
 ·exact fun y' w1 hy hf hon=>⟨y',hy,hf,hon,frontOk_kept hy⟩
 ·intro j w1 hj
  match j,hj with
  | 0,hj=>exact Stage.lies hj
  | 1,hj=>exact Stage.lies hj
 ·intro j w1 hj
  match j,hj with
  | 0,hj=>exact Stage.drew hj
  | 1,hj=>exact Stage.drew hj
 ·exact fun w1 hw1=>stage_stepR (p:=varPart M 155) (fun a a' ha=>askX_kept (by simp) ha) (fun z w' hz hf=>ends_error (by unfold partsX;rw[hz];try rfl) hf) (fun yy hyc hon hkp=>variable_at M rm hN yy w1 hon (by have:=G0 yy hyc;omega) 155 (by simp[places])) hw1
 ·exact fun w1 hw1=>stage_end hw1
theorem instr_16 {b:Nat}(M:Mode b)(hN:NextOwn M)(x y:WS × M.σ)(w:World)(h:On M w x)(i:Nat)(hi:i≤4096)(hx:nextX M 154 1 x = .ok y)(hk:y.1.op=16)(hl0:0≤y.1.len)(hl1:y.1.len≤4096)(nb:Bool)
 (hnames:∀ w1,Lies w1 b y.1→Calls Tryd.prog 93 #[.pointer (some ⟨b,130,none⟩),.pointer (some ⟨b,154,none⟩)] w1 fun e w'=>e = .returned (.bool nb)∧w'=w1) :
 Calls Tryd.prog 65 #[.pointer (some ⟨b,0,none⟩),.int .i64 i] w (Ends M w (partsX M 16 (frontOk M false false nb i x.1.at' y))) :=
 instr_16at M (fun _=>1000000) (hN.at _) (fun _ _ _ _ _=>show 1000000≤1000000+1 by omega) x y w h (show 4≤1000000 by omega) i hi hx hk hl0 hl1 nb hnames
theorem instr_17at {b:Nat}(M:Mode b)(rm:M.σ→Nat)(hN:NextAt M rm)(hR:RoomGoes M rm)(x y:WS × M.σ)(w:World)(h:On M w x)(hp:4≤rm x.2)(i:Nat)(hi:i≤4096)(hx:nextX M 154 1 x = .ok y)(hk:y.1.op=17)(hl0:0≤y.1.len)(hl1:y.1.len≤4096)(nb:Bool)(hnames:∀ w1,Lies w1 b y.1→Calls Tryd.prog 93 #[.pointer (some ⟨b,138,none⟩),.pointer (some ⟨b,154,none⟩)] w1 fun e w'=>e = .returned (.bool nb)∧w'=w1) :
 Calls Tryd.prog 65 #[.pointer (some ⟨b,0,none⟩),.int .i64 i] w (Ends M w (partsX M 17 (frontOk M false false nb i x.1.at' y))):=by
 have hE:∀ z w1,frontOk M false false nb i x.1.at' y = .error z→Fr M.SB w w1→Ends M w (partsX M 17 (frontOk M false false nb i x.1.at' y)) (.panicked (viol z.1 z.2)) w1 :=
  fun z w1 hz hf=>ends_error (by simp only[partsX,hz,thenX]) hf
 have G0:=front_goes hR hx false false nb i x.1.at'
 have G1:=G0.then (varPart M 155) (fun a a' ha=>ask_goes hR ha)
 have G2:=G1.then (varPart M 156) (fun a a' ha=>ask_goes hR ha)
 refine askInstr_17at M rm hN x y w h (by omega) i hi hx hk hl0 hl1 nb hnames _ (fun j w1=>match j with | 0=>Stage M w y.1 (frontOk M false false nb i x.1.at' y) w1 | 1=>Stage M w y.1 (thenX (frontOk M false false nb i x.1.at' y) (varPart M 155)) w1 | 2=>Stage M w y.1 (thenX (thenX (frontOk M false false nb i x.1.at' y) (varPart M 155)) (varPart M 156)) w1 | 3=>Stage M w y.1 (thenX (thenX (thenX (frontOk M false false nb i x.1.at' y) (varPart M 155)) (varPart M 156)) (varPart M 157)) w1 | _=>False) hE ?_ ?_ ?_ ?_ ?_ ?_ ?_
 ·exact fun y' w1 hy hf hon=>⟨y',hy,hf,hon,frontOk_kept hy⟩
 ·intro j w1 hj
  match j,hj with
  | 0,hj=>exact Stage.lies hj
  | 1,hj=>exact Stage.lies hj
  | 2,hj=>exact Stage.lies hj
  | 3,hj=>exact Stage.lies hj
 ·intro j w1 hj
  match j,hj with
  | 0,hj=>exact Stage.drew hj
  | 1,hj=>exact Stage.drew hj
  | 2,hj=>exact Stage.drew hj
  | 3,hj=>exact Stage.drew hj
 ·exact fun w1 hw1=>stage_stepR (p:=varPart M 155) (fun a a' ha=>askX_kept (by simp) ha) (fun z w' hz hf=>ends_error (by unfold partsX;rw[hz];try rfl) hf) (fun yy hyc hon hkp=>variable_at M rm hN yy w1 hon (by have:=G0 yy hyc;omega) 155 (by simp[places])) hw1
 ·exact fun w1 hw1=>stage_stepR (p:=varPart M 156) (fun a a' ha=>askX_kept (by simp) ha) (fun z w' hz hf=>ends_error (by unfold partsX;rw[hz];try rfl) hf) (fun yy hyc hon hkp=>variable_at M rm hN yy w1 hon (by have:=G1 yy hyc;omega) 156 (by simp[places])) hw1
 ·exact fun w1 hw1=>stage_stepR (p:=varPart M 157) (fun a a' ha=>askX_kept (by simp) ha) (fun z w' hz hf=>ends_error (by unfold partsX;rw[hz];try rfl) hf) (fun yy hyc hon hkp=>variable_at M rm hN yy w1 hon (by have:=G2 yy hyc;omega) 157 (by simp[places])) hw1
 ·exact fun w1 hw1=>stage_end hw1
theorem instr_17 {b:Nat}(M:Mode b)(hN:NextOwn M)(x y:WS × M.σ)(w:World)(h:On M w x)(i:Nat)(hi:i≤4096)(hx:nextX M 154 1 x = .ok y)(hk:y.1.op=17)(hl0:0≤y.1.len)(hl1:y.1.len≤4096)(nb:Bool)
 (hnames:∀ w1,Lies w1 b y.1→Calls Tryd.prog 93 #[.pointer (some ⟨b,138,none⟩),.pointer (some ⟨b,154,none⟩)] w1 fun e w'=>e = .returned (.bool nb)∧w'=w1) :
 Calls Tryd.prog 65 #[.pointer (some ⟨b,0,none⟩),.int .i64 i] w (Ends M w (partsX M 17 (frontOk M false false nb i x.1.at' y))) :=
 instr_17at M (fun _=>1000000) (hN.at _) (fun _ _ _ _ _=>show 1000000≤1000000+1 by omega) x y w h (show 4≤1000000 by omega) i hi hx hk hl0 hl1 nb hnames
end Go.Proofs.YtingenonbkencaaDoor
