/- The switches of norm over letters: their tables, and their contracts. (Made by tools/mkletters.py out of the program's own code.) -/
import Derived.Test.YtfegbfhkmdmheaaDoorSwI
import Derived.Test.YtfegbfhkmdmheaaDoorMem
import Derived.Test.YtfegbfhkmdmheaaDoorProg
set_option linter.unusedSimpArgs false
set_option linter.unusedVariables false
namespace Go.Proofs.YtfegbfhkmdmheaaDoor
open Go.RowKit Go.Lib

def markT : List (List Int × Int) := [([192, 200, 204, 210, 217, 224, 232, 236, 242, 249, 7846, 7847, 7872, 7873, 7890, 7891], 768), ([193, 201, 205, 211, 218, 221, 225, 233, 237, 243, 250, 253, 262, 263, 313, 314, 323, 324, 340, 341, 346, 347, 377, 378, 902, 904, 905, 906, 908, 910, 911, 912, 940, 941, 942, 943, 944, 972, 973, 974, 1027, 1036, 1107, 1116, 7844, 7845, 7870, 7871, 7888, 7889], 769), ([194, 202, 206, 212, 219, 226, 234, 238, 244, 251, 264, 265, 284, 285, 292, 293, 308, 309, 348, 349, 372, 373, 374, 375], 770), ([195, 209, 213, 227, 241, 245, 296, 297, 360, 361], 771), ([256, 257, 274, 275, 298, 299, 332, 333, 362, 363], 772), ([258, 259, 276, 277, 286, 287, 300, 301, 334, 335, 364, 365, 1038, 1049, 1081, 1118], 774), ([266, 267, 278, 279, 288, 289, 304, 379, 380], 775), ([196, 203, 207, 214, 220, 228, 235, 239, 246, 252, 255, 376, 938, 939, 970, 971, 1025, 1031, 1105, 1111], 776), ([197, 229, 366, 367], 778), ([336, 337, 368, 369], 779), ([268, 269, 270, 271, 282, 283, 317, 318, 327, 328, 344, 345, 352, 353, 356, 357, 381, 382], 780), ([199, 231, 290, 291, 310, 311, 315, 316, 325, 326, 342, 343, 350, 351, 354, 355], 807), ([260, 261, 280, 281, 302, 303, 370, 371], 808)]
theorem markOf_any (x : Int) (w : World) : Calls Tryd.prog 95 #[.int .i32 x] w fun e w' => e = .returned (.int .i32 (lookI markT 0 x)) ∧ w' = w :=
  tableI_calls Tryd.func95 rfl rfl rfl 0 rfl rfl rfl rfl rfl (by decide) 500 markT 0 (by kernel_rfl) (by kernel_rfl) (by kernel_rfl) x w
def greatT : List (List Int × Int) := [([192, 193, 194, 195, 196, 197, 256, 258, 260], 65), ([199, 262, 264, 266, 268], 67), ([270], 68), ([200, 201, 202, 203, 274, 276, 278, 280, 282], 69), ([284, 286, 288, 290], 71), ([292], 72), ([204, 205, 206, 207, 296, 298, 300, 302, 304], 73), ([308], 74), ([310], 75), ([313, 315, 317], 76), ([209, 323, 325, 327], 78), ([210, 211, 212, 213, 214, 332, 334, 336], 79), ([340, 342, 344], 82), ([346, 348, 350, 352], 83), ([354, 356], 84), ([217, 218, 219, 220, 360, 362, 364, 366, 368, 370], 85), ([372], 87), ([221, 374, 376], 89), ([377, 379, 381], 90), ([7844, 7846], 194), ([7870, 7872], 202), ([7888, 7890], 212)]
theorem greatLatin_any (x : Int) (w : World) : Calls Tryd.prog 118 #[.int .i32 x] w fun e w' => e = .returned (.int .i32 (lookI greatT 0 x)) ∧ w' = w :=
  tableI_calls Tryd.func118 rfl rfl rfl 0 rfl rfl rfl rfl rfl (by decide) 500 greatT 0 (by kernel_rfl) (by kernel_rfl) (by kernel_rfl) x w
def smallT : List (List Int × Int) := [([224, 225, 226, 227, 228, 229, 257, 259, 261], 97), ([231, 263, 265, 267, 269], 99), ([271], 100), ([232, 233, 234, 235, 275, 277, 279, 281, 283], 101), ([285, 287, 289, 291], 103), ([293], 104), ([236, 237, 238, 239, 297, 299, 301, 303], 105), ([309], 106), ([311], 107), ([314, 316, 318], 108), ([241, 324, 326, 328], 110), ([242, 243, 244, 245, 246, 333, 335, 337], 111), ([341, 343, 345], 114), ([347, 349, 351, 353], 115), ([355, 357], 116), ([249, 250, 251, 252, 361, 363, 365, 367, 369, 371], 117), ([373], 119), ([253, 255, 375], 121), ([378, 380, 382], 122), ([7845, 7847], 226), ([7871, 7873], 234), ([7889, 7891], 244)]
theorem smallLatin_any (x : Int) (w : World) : Calls Tryd.prog 119 #[.int .i32 x] w fun e w' => e = .returned (.int .i32 (lookI smallT 0 x)) ∧ w' = w :=
  tableI_calls Tryd.func119 rfl rfl rfl 0 rfl rfl rfl rfl rfl (by decide) 500 smallT 0 (by kernel_rfl) (by kernel_rfl) (by kernel_rfl) x w
def greekT : List (List Int × Int) := [([902], 913), ([904], 917), ([905], 919), ([906, 938], 921), ([908], 927), ([910, 939], 933), ([911], 937), ([940], 945), ([941], 949), ([942], 951), ([943, 970], 953), ([972], 959), ([971, 973], 965), ([974], 969), ([912], 970), ([944], 971)]
theorem greek_any (x : Int) (w : World) : Calls Tryd.prog 116 #[.int .i32 x] w fun e w' => e = .returned (.int .i32 (lookI greekT 0 x)) ∧ w' = w :=
  tableI_calls Tryd.func116 rfl rfl rfl 0 rfl rfl rfl rfl rfl (by decide) 500 greekT 0 (by kernel_rfl) (by kernel_rfl) (by kernel_rfl) x w
def cyrT : List (List Int × Int) := [([1031], 1030), ([1027], 1043), ([1025], 1045), ([1049], 1048), ([1036], 1050), ([1038], 1059), ([1107], 1075), ([1105], 1077), ([1081], 1080), ([1116], 1082), ([1118], 1091), ([1111], 1110)]
theorem cyrillic_any (x : Int) (w : World) : Calls Tryd.prog 117 #[.int .i32 x] w fun e w' => e = .returned (.int .i32 (lookI cyrT 0 x)) ∧ w' = w :=
  tableI_calls Tryd.func117 rfl rfl rfl 0 rfl rfl rfl rfl rfl (by decide) 500 cyrT 0 (by kernel_rfl) (by kernel_rfl) (by kernel_rfl) x w
end Go.Proofs.YtfegbfhkmdmheaaDoor
