/- A region that draws its order (RgM), for pages. -/
import Derived.Test.YtakibndjmhadnaaPgRf
import Derived.Test.YtakibndjmhadnaaRgM
